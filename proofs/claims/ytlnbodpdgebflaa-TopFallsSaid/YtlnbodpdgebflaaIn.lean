/- the reference: before, insert -/
import Derived.Test.YtlnbodpdgebflaaWm
import Derived.Test.YtlnbodpdgebflaaQs
import Derived.Laws.OwnMore
namespace Go.Proofs.Ytlnbodpdgebflaa
open Go.RowKit

theorem bef_drop {a b : List Nat} {k : Nat} (ha : k < a.length) (hb : k < b.length) : bef (a.drop k) (b.drop k) = if a.getD k 0 = b.getD k 0 then bef (a.drop (k + 1)) (b.drop (k + 1)) else decide (a.getD k 0 < b.getD k 0) := by
  rw [List.drop_eq_getElem_cons ha, List.drop_eq_getElem_cons hb]
  simp [bef, ha, hb]

set_option maxHeartbeats 1000000 in
theorem beforeR_any (v v' : Value) (a b : List Nat) (w : World) (h : Nats w v a) (h' : Nats w v' b) (hl : a.length = b.length) :
    Calls Try.prog 101 #[v, v'] w fun e w' => e = .returned (.bool (bef a b)) ∧ w = w' := by
  obtain ⟨ao, cap, rfl, h1, h2, hx⟩ := Nats.open h
  obtain ⟨ao', cap', rfl, h1', h2', hx'⟩ := Nats.open h'
  have HX := Lib.hid hx
  have HX' := Lib.hid hx'
  have HL := Lib.hid hl
  obtain ⟨n, hn⟩ : ∃ n, n = a.length := ⟨_, rfl⟩
  rw [← hl] at h1' h2' ⊢
  rw [← hn] at h1 h2 h1' h2' ⊢
  have HN := Lib.hid hn
  obtain ⟨T, hT⟩ : ∃ T, T = bef a b := ⟨_, rfl⟩
  rw [← hT]
  have HT : Hid (T = bef (a.drop 0) (b.drop 0)) := Lib.hid (by rw [hT]; rfl)
  clear h h' hx hx' hl hn hT
  go_enter Try.func101, Try.ntmps101
  go_wp2_with fail
  go_loop [9] (fun i => ∃ k : Nat, k ≤ n ∧ i = .int .i64 k ∧ T = bef (a.drop k) (b.drop k)) (fun i => n - (intOf i).toNat)
  case atStart => exact ⟨0, Nat.zero_le _, rfl, HT.out⟩
  case round =>
    clear HT
    obtain ⟨k, hk, rfl, hTk⟩ := hrel
    have HTk := Lib.hid hTk
    clear hTk
    by_cases hlt : k < n
    · obtain ⟨b1, o1, rfl, c1⟩ := HX.out k (by rw [← HN.out]; exact hlt)
      obtain ⟨b2, o2, rfl, c2⟩ := HX'.out k (by rw [← HL.out, ← HN.out]; exact hlt)
      have HS := Lib.hid (bef_drop (a := a) (b := b) (k := k) (by rw [← HN.out]; exact hlt) (by rw [← HL.out, ← HN.out]; exact hlt))
      generalize a.getD k 0 = x at *
      generalize b.getD k 0 = y at *
      by_cases e : x = y
      · have HE : Hid (T = bef (a.drop (k + 1)) (b.drop (k + 1))) := Lib.hid (by rw [HTk.out, HS.out, if_pos e])
        subst e
        have hne : (((x : Nat) : Int) != ((x : Nat) : Int)) = false := bne_self_eq_false _
        clear HS HTk
        go_wp2_with fail
        go_round
        case rel => exact ⟨k + 1, by omega, by go_num, HE.out⟩
        case measure => simp [intOf]; omega
      · have HE : Hid (T = decide (x < y)) := Lib.hid (by rw [HTk.out, HS.out, if_neg e])
        have hne : (((x : Nat) : Int) != ((y : Nat) : Int)) = true := bne_iff_ne.2 (by omega)
        clear HS HTk
        go_wp2_with fail
        go_ret
        exact ⟨ret_bool (by rw [HE.out]), rfl⟩
    · have HE : Hid (T = false) := Lib.hid (by rw [HTk.out, List.drop_eq_nil_of_le (by rw [← HN.out]; omega)]; rfl)
      clear HTk
      go_wp2_with fail
      go_ret
      exact ⟨ret_bool HE.out.symm, rfl⟩

theorem owns24_form {w : World} {B n : Nat} {v : Value} {xs : List Value} (h : w.ownsRow B 24 1 v n xs) : (v = .slice none 0 0 ∧ xs = [] ∧ n = 0) ∨ ∃ g c, v = .slice (some ⟨g, 0, none⟩) n c ∧ n ≤ c := by
  obtain ⟨h1, h2⟩ := h
  rcases h2 with ⟨rfl, rfl⟩ | ⟨g, cap, cur, rfl, _, _, hc, _⟩
  · exact .inl ⟨rfl, List.eq_nil_of_length_eq_zero (by omega), rfl⟩
  · exact .inr ⟨g, cap, rfl, hc⟩
/-- What an append takes from: nil, or a slice whose cells are told. -/
def Src24 (w : World) (v : Value) (zs : List Value) : Prop :=
  (v = .slice none 0 0 ∧ zs = []) ∨ ∃ ad c, v = .slice (some ad) zs.length c ∧ ∀ (j : Nat) (u : Value), zs[j]? = some u → w.cell? (ad.add j) = some u
theorem Src24.below {w w' : World} {v : Value} {zs : List Value} (h : Src24 w v zs) (hb : Below w.heap.size w w') : Src24 w' v zs := by
  rcases h with h | ⟨ad, c, e, hc⟩
  · exact .inl h
  · exact .inr ⟨ad, c, e, fun j u hj => ck (hc j u hj) hb⟩
theorem wp_append24 {w : World} {o : Oper} {a : Act} {K : Act → World → Prop} {Q : Exit → Act → World → Prop} (s x : Operand)
    (ho : o.op = .call { callee := .builtin .append, args := #[s, x], argTypes := #[33, 33] }) (B : Nat) (v u : Value) (ys zs : List Value) (hs : a.eval s = v) (hown : w.ownsRow B 24 1 v ys.length ys)
    (hx : a.eval x = u) (hsrc : Src24 w u zs) (hone : ∀ u ∈ zs, u.oneCell' = true) (hl : ys.length + zs.length ≤ 16777300) (hB : B ≤ w.heap.size)
    (h : ∀ v' w', w'.ownsRow B 24 1 v' (ys ++ zs).length (ys ++ zs) → w.grownBy w' v.ownBlock → K (a.put o.dst v') w') : o.wp Try.prog a w K Q := by
  obtain ⟨i0, hi, hz0, hz1, hz2⟩ := info_parts Try.info24
  rcases hsrc with ⟨rfl, rfl⟩ | ⟨ad, c, rfl, hc⟩
  · have hrun := run_append_owned_none (P := Try.prog) (w := w) B 33 o.type 24 i0 1 Try.underlying33 hi v ys.length ys hown
    unfold Oper.wp
    simp [execOp, ho, resolve, invoke, builtin, hs, hx, hrun, Result.andThen]
    exact h v w (by simpa using hown) ⟨rfl, rfl, rfl, Nat.le_refl _, fun _ _ _ => rfl⟩
  · refine wp_append_own w s x 33 ho B 24 i0 (.slice none 0 0) 1 24 Try.underlying33 hi hz0 hz1 hz2 rfl (by decide) v ys.length ys hs hown ad zs.length c zs hx (by simp) hc hone (by unfold maxLen; omega) (by omega) hB fun v' w' h2 h3 _ => h v' w' ?_ h3
    rw [List.length_append]
    exact h2
theorem Src24.grown {w w' : World} {b n : Nat} {zs : List Value} {row : Option Nat} (h : Src24 w (.slice (some ⟨b, 0, none⟩) n n) zs) (hg : w.grownBy w' row) (hr : row ≠ some b) : Src24 w' (.slice (some ⟨b, 0, none⟩) n n) zs := by
  rcases h with ⟨h, _⟩ | ⟨ad, c, e, hc⟩
  · cases h
  · simp only [Value.slice.injEq, Option.some.injEq] at e
    obtain ⟨rfl, rfl, rfl⟩ := e
    refine .inr ⟨_, _, rfl, fun j u hj => ?_⟩
    have h1 := hc j u hj
    exact (World.cell?_of_block (hg.block _ (World.block_lt_of_cell? w _ h1) fun e => hr (by rw [← e, Addr.add_lit]))).trans h1
theorem Src24.lit (w : World) (x : Value) : Src24 (w.alloc (.cells #[x] 24)) (.slice (some ⟨w.heap.size, 0, none⟩) 1 1) [x] := .inr ⟨_, _, rfl, newOne w _ 24⟩
theorem lit0_own {w : World} {B : Nat} (hB : B ≤ w.heap.size) : (w.alloc (.cells #[] 24)).ownsRow B 24 1 (.slice (some ⟨w.heap.size, 0, none⟩) 0 0) ([] : List Value).length ([] : List Value) :=
  World.ownsRow_lit w #[] 0 hB (by unfold maxLen; omega) rfl
theorem one_sl {ua : Option Addr} {un uc : Nat} : ∀ u ∈ [Value.slice ua un uc], u.oneCell' = true := by
  intro u hu; simp at hu; subst hu; rfl
theorem s24_take {w : World} {g a c : Nat} {vs : List Value} (h : ∀ j u, vs[j]? = some u → w.cell? ⟨g, j, none⟩ = some u) (ha : a ≤ vs.length) : Src24 w (.slice (some ⟨g, 0, none⟩) a c) (vs.take a) := by
  refine .inr ⟨_, c, by rw [List.length_take, Nat.min_eq_left ha], fun j u hj => ?_⟩
  have hlt := (List.getElem?_eq_some_iff.1 hj).1
  rw [List.length_take] at hlt
  rw [List.getElem?_take_of_lt (by omega)] at hj
  rw [Addr.add_lit, Nat.zero_add, h j u hj]
theorem s24_drop {w : World} {g a c p n : Nat} {vs : List Value} (h : ∀ j u, vs[j]? = some u → w.cell? ⟨g, j, none⟩ = some u) (hl : vs.length = n) (hnc : n ≤ c) (hp : (if c = a then 0 else a) = p) :
    Src24 w (.slice (some ⟨g, p, none⟩) (n - a) (c - a)) (vs.drop a) := by
  refine .inr ⟨_, c - a, by rw [List.length_drop, hl], fun j u hj => ?_⟩
  have hlt := (List.getElem?_eq_some_iff.1 hj).1
  rw [List.length_drop] at hlt
  rw [if_neg (by omega)] at hp
  subst hp
  rw [List.getElem?_drop] at hj
  rw [Addr.add_lit, h (a + j) u hj]
theorem atK_le (L : List (List Nat)) (x : List Nat) : atK L x ≤ L.length := by
  unfold atK
  have := (List.takeWhile_prefix (p := fun a => bef a x) (l := L)).length_le
  exact this
theorem atK_spec : ∀ (L : List (List Nat)) (x : List Nat) (k : Nat), (k < atK L x → bef (L.getD k []) x = true) ∧ (k = atK L x → k < L.length → bef (L.getD k []) x = false)
  | [], x, k => ⟨fun h => by simp [atK] at h, fun _ h => by simp at h⟩
  | y :: L, x, k => by
    have ih := atK_spec L x
    cases hb : bef y x with
    | true =>
      have e : atK (y :: L) x = atK L x + 1 := by simp [atK, hb]
      rw [e]
      cases k with
      | zero => exact ⟨fun _ => by simpa using hb, fun h => by omega⟩
      | succ k => exact ⟨fun h => by simpa using (ih k).1 (by omega), fun h h2 => by simpa using (ih k).2 (by omega) (by simpa using h2)⟩
    | false =>
      have e : atK (y :: L) x = 0 := by simp [atK, hb]
      rw [e]
      exact ⟨fun h => by omega, fun h _ => by subst h; simpa using hb⟩

set_option maxHeartbeats 4000000 in
set_option maxRecDepth 100000 in
theorem insert_any (B : Nat) (v u : Value) (vs : List Value) (L : List (List Nat)) (x : List Nat) (w : World) (h : w.ownsRow B 24 1 v L.length vs) (hw : ∀ (j : Nat) (y : Value) (l : List Nat), vs[j]? = some y → L[j]? = some l → Nats w y l)
    (hu : Nats w u x) (hl : ∀ l ∈ L, l.length = x.length) (hn : L.length ≤ 16777216) :
    Calls Try.prog 78 #[v, u] w fun e w' => ∃ v', e = .returned v' ∧ w'.ownsRow w.heap.size 24 1 v' (vs.take (atK L x) ++ [u] ++ vs.drop (atK L x)).length (vs.take (atK L x) ++ [u] ++ vs.drop (atK L x)) ∧ Below w.heap.size w w' := by
  have hvl : vs.length = L.length := by have := h.1; omega
  have hone : ∀ y ∈ vs, y.oneCell' = true := fun y hy => by
    obtain ⟨j, hj, rfl⟩ := List.mem_iff_getElem.1 hy
    obtain ⟨_, _, e, _, _, _⟩ := Nats.open (hw j vs[j] L[j] (by simp [hj]) (by simp [show j < L.length by omega]))
    rw [e]; rfl
  have hat := atK_le L x
  have HBe := Lib.hid (fun y l W hy hx' he => beforeR_any y u l x W hy hx' he)
  obtain ⟨ua, uc, rfl, _, _, _⟩ := Nats.open hu
  have HU := Lib.hid hu
  have HSp := Lib.hid (fun k => atK_spec L x k)
  obtain ⟨a, ha⟩ : ∃ a, a = atK L x := ⟨_, rfl⟩
  rw [← ha] at hat HSp
  have HAt := Lib.hid ha
  have HO1 : Hid (∀ y ∈ vs.take a, y.oneCell' = true) := Lib.hid (fun y hy => hone y (List.mem_of_mem_take hy))
  have HO2 : Hid (∀ y ∈ vs.drop a, y.oneCell' = true) := Lib.hid (fun y hy => hone y (List.mem_of_mem_drop hy))
  have HL1 : Hid (([] : List Value).length + (vs.take a).length ≤ 16777300) := Lib.hid (by simp; omega)
  have HL2 : Hid ((vs.take a).length + [Value.slice ua x.length uc].length ≤ 16777300) := Lib.hid (by simp; omega)
  have HL3 : Hid ((vs.take a ++ [Value.slice ua x.length uc]).length + (vs.drop a).length ≤ 16777300) := Lib.hid (by simp; omega)
  obtain ⟨n, hnn⟩ : ∃ n, n = L.length := ⟨_, rfl⟩
  rw [← hnn] at h hvl hat hn HSp
  have HNn := Lib.hid hnn
  have HLl := Lib.hid hl
  have HW := Lib.hid hw
  obtain ⟨un, hun⟩ : ∃ un, un = x.length := ⟨_, rfl⟩
  rw [← hun] at HU HBe HL2 HL3 HLl ⊢
  clear hu hone hl ha hnn hun hw
  rcases owns24_form h with ⟨rfl, hv0, hn0⟩ | ⟨g, c, rfl, hnc⟩
  · obtain rfl : a = 0 := by omega
    have HS1 : Hid (Src24 w (.slice none 0 0) (vs.take 0)) := Lib.hid (.inl ⟨rfl, by rw [hv0]; rfl⟩)
    have HS2 : Hid (Src24 w (.slice none 0 0) (vs.drop 0)) := Lib.hid (.inl ⟨rfl, by rw [hv0]; rfl⟩)
    clear hv0 hn0 h HSp HBe HW HLl
    go_enter Try.func78, Try.ntmps78
    go_wp2_with fail
    go_loop [5] (fun aa => aa = .int .i64 0) (fun _ => 0)
    case atStart => rfl
    case round =>
      subst hrel
      go_wp2_with fail
      refine wp_region_any (by kernel_rfl) ?_
      change wpAny _ _ _ _ _ _ _ (World.drew _)
      refine wpAny_take (i := 1) (v := .slice none 0 0) rfl (by kernel_rfl) (by kernel_rfl) (by kernel_rfl) (fun _ _ _ h => h) (Or.inl ⟨by rfl, ?_⟩) ?_
      · intro w'
        go_simp
      simp only [Act.put]
      refine wpAny_take (i := 2) (v := .int .i64 0) rfl (by kernel_rfl) (by kernel_rfl) (by kernel_rfl) (fun _ _ _ h => h) (Or.inl ⟨by rfl, ?_⟩) ?_
      · intro w'
        go_simp
      simp only [Act.put]
      refine wpAny_take (i := 3) (v := .slice none 0 0) rfl (by kernel_rfl) (by kernel_rfl) (by kernel_rfl) (fun _ _ _ h => h) (Or.inl ⟨by rfl, ?_⟩) ?_
      · intro w'
        go_simp
      simp only [Act.put]
      refine wpAny_take (i := 5) (v := .slice ua un uc) rfl (by kernel_rfl) (by kernel_rfl) (by kernel_rfl) (fun _ _ _ h => h) (Or.inl ⟨by rfl, ?_⟩) ?_
      · intro w'
        go_simp
      simp only [Act.put]
      refine wpAny_take (i := 8) (v := .slice none 0 0) rfl (by kernel_rfl) (by kernel_rfl) (by kernel_rfl) (fun _ _ _ h => h) (Or.inl ⟨by rfl, ?_⟩) ?_
      · intro w'
        go_simp
      simp only [Act.put]
      refine wpAny_take (i := 9) (v := .int .i64 0) rfl (by kernel_rfl) (by kernel_rfl) (by kernel_rfl) (fun _ _ _ h => h) (Or.inl ⟨by rfl, ?_⟩) ?_
      · intro w'
        go_simp
      simp only [Act.put]
      refine wpAny_take (i := 10) (v := .slice none 0 0) rfl (by kernel_rfl) (by kernel_rfl) (by kernel_rfl) (fun _ _ _ h => h) (Or.inl ⟨by rfl, ?_⟩) ?_
      · intro w'
        go_simp
      simp only [Act.put]
      refine wpAny_ready (rs := [0, 6]) (by kernel_rfl) (by simp) (AllReady.cons rfl (fun K hK => ?_) (AllReady.cons rfl (fun K hK => ?_) AllReady.nil))
      · go_simp
        refine hK _ _ ?_
        clear hK K
        have hO1 : ((w.alloc (.cells #[] 24)).drew).ownsRow w.heap.size 24 1 (.slice (some ⟨w.heap.size, 0, none⟩) 0 0) ([] : List Value).length ([] : List Value) := lit0_own (Nat.le_refl _)
        have hB1 : Below w.heap.size w ((w.alloc (.cells #[] 24)).drew) := ((Below.refl _ w).alloc (Nat.le_refl _) _).drew
        have hs1 : ((w.alloc (.cells #[] 24)).drew).heap.size = w.heap.size + 1 := World.size_alloc _ _
        generalize ((w.alloc (.cells #[] 24)).drew) = w1 at *
        refine wpAny_ready (rs := [4, 6]) (by kernel_rfl) (by simp) (AllReady.cons rfl (fun K hK => ?_) (AllReady.cons rfl (fun K hK => ?_) AllReady.nil))
        · rw [if_pos (by rfl)]
          refine wp_append24 _ _ rfl w.heap.size _ _ [] (vs.take 0) rfl hO1 rfl (HS1.out.below hB1) HO1.out HL1.out (by omega) ?_
          intro v3 w3 hown3 hg3
          refine hK _ _ ?_
          clear hK K
          rw [List.nil_append] at hown3
          have hB3 : Below w.heap.size w w3 := (hB1).grown hg3 (hB1).size fun k e => by have e' : w.heap.size = k := Option.some.inj e; omega
          refine wpAny_ready (rs := [6]) (by kernel_rfl) (by simp) (AllReady.cons rfl (fun K hK => ?_) AllReady.nil)
          go_simp
          refine hK _ _ ?_
          clear hK K
          have hO4 := owns_below hown3 ((Below.refl _ w3).alloc (Nat.le_refl _) (.cells #[.slice ua un uc] 24)) (Nat.le_refl _)
          have hS4 := Src24.lit w3 (.slice ua un uc)
          have hB4 : Below w.heap.size w (w3.alloc (.cells #[.slice ua un uc] 24)) := hB3.alloc hB3.size _
          generalize (w3.alloc (.cells #[.slice ua un uc] 24)) = w4 at *
          refine wpAny_ready (rs := [7]) (by kernel_rfl) (by simp) (AllReady.cons rfl (fun K hK => ?_) AllReady.nil)
          rw [if_pos (by rfl)]
          refine wp_append24 _ _ rfl w.heap.size _ _ (vs.take 0) [.slice ua un uc] rfl hO4 rfl hS4 one_sl HL2.out (hB4).size ?_
          intro v5 w5 hown5 hg5
          refine hK _ _ ?_
          clear hK K
          have hB5 : Below w.heap.size w w5 := (hB4).grown hg5 (hB4).size fun k e => ((hO4).lt k e).1
          refine wpAny_ready (rs := [11]) (by kernel_rfl) (by simp) (AllReady.cons rfl (fun K hK => ?_) AllReady.nil)
          rw [if_pos (by rfl)]
          refine wp_append24 _ _ rfl w.heap.size v5 _ (vs.take 0 ++ [.slice ua un uc]) (vs.drop 0) rfl hown5 rfl (HS2.out.below hB5) HO2.out HL3.out hB5.size ?_
          intro v6 w6 hown6 hg6
          refine hK _ _ ?_
          clear hK K
          have hB6 : Below w.heap.size w w6 := hB5.grown hg6 hB5.size fun k e => (hown5.lt k e).1
          refine wpAny_ready (rs := [12]) (by kernel_rfl) (by simp) (AllReady.cons rfl (fun K hK => ?_) AllReady.nil)
          go_simp
          refine hK _ _ ?_
          clear hK K
          refine wpAny_done (by kernel_rfl) ?_ _
          obtain ⟨a6, c6, rfl⟩ := owns_form hown6
          have HE6 : Hid (w6.ownsRow w.heap.size 24 1 (.slice a6 (vs.take 0 ++ [Value.slice ua un uc] ++ vs.drop 0).length c6) (vs.take 0 ++ [Value.slice ua un uc] ++ vs.drop 0).length (vs.take 0 ++ [Value.slice ua un uc] ++ vs.drop 0)) := Lib.hid hown6
          have HB6 := Lib.hid hB6
          clear hown6 hg6 hB6
          generalize hvl : (vs.take 0 ++ [Value.slice ua un uc] ++ vs.drop 0).length = vl at *
          have HVL := Lib.hid hvl
          clear hvl
          go_wp2_with fail
          go_ret
          refine ⟨_, rfl, ?_, HB6.out⟩
          rw [← HAt.out]
          have h9 := HE6.out
          rw [← HVL.out] at h9 ⊢
          exact h9
        · go_simp
          refine hK _ _ ?_
          clear hK K
          have hO2 := owns_below hO1 ((Below.refl _ w1).alloc (Nat.le_refl _) (.cells #[.slice ua un uc] 24)) (Nat.le_refl _)
          have hS2 := Src24.lit w1 (.slice ua un uc)
          have hB2 : Below w.heap.size w (w1.alloc (.cells #[.slice ua un uc] 24)) := hB1.alloc hB1.size _
          have hs2 : (w1.alloc (.cells #[.slice ua un uc] 24)).heap.size = w1.heap.size + 1 := World.size_alloc _ _
          rw [hs1] at hS2
          generalize (w1.alloc (.cells #[.slice ua un uc] 24)) = w2 at *
          refine wpAny_ready (rs := [4]) (by kernel_rfl) (by simp) (AllReady.cons rfl (fun K hK => ?_) AllReady.nil)
          rw [if_pos (by rfl)]
          refine wp_append24 _ _ rfl w.heap.size _ _ [] (vs.take 0) rfl hO2 rfl (HS1.out.below hB2) HO1.out HL1.out (by omega) ?_
          intro v3 w3 hown3 hg3
          refine hK _ _ ?_
          clear hK K
          rw [List.nil_append] at hown3
          have hB3 : Below w.heap.size w w3 := (hB2).grown hg3 (hB2).size fun k e => by have e' : w.heap.size = k := Option.some.inj e; omega
          have hS3 := hS2.grown hg3 (by intro e; have e' : w.heap.size = w.heap.size + 1 := Option.some.inj e; omega)
          refine wpAny_ready (rs := [7]) (by kernel_rfl) (by simp) (AllReady.cons rfl (fun K hK => ?_) AllReady.nil)
          rw [if_pos (by rfl)]
          refine wp_append24 _ _ rfl w.heap.size _ _ (vs.take 0) [.slice ua un uc] rfl hown3 rfl hS3 one_sl HL2.out (hB3).size ?_
          intro v5 w5 hown5 hg5
          refine hK _ _ ?_
          clear hK K
          have hB5 : Below w.heap.size w w5 := (hB3).grown hg5 (hB3).size fun k e => ((hown3).lt k e).1
          refine wpAny_ready (rs := [11]) (by kernel_rfl) (by simp) (AllReady.cons rfl (fun K hK => ?_) AllReady.nil)
          rw [if_pos (by rfl)]
          refine wp_append24 _ _ rfl w.heap.size v5 _ (vs.take 0 ++ [.slice ua un uc]) (vs.drop 0) rfl hown5 rfl (HS2.out.below hB5) HO2.out HL3.out hB5.size ?_
          intro v6 w6 hown6 hg6
          refine hK _ _ ?_
          clear hK K
          have hB6 : Below w.heap.size w w6 := hB5.grown hg6 hB5.size fun k e => (hown5.lt k e).1
          refine wpAny_ready (rs := [12]) (by kernel_rfl) (by simp) (AllReady.cons rfl (fun K hK => ?_) AllReady.nil)
          go_simp
          refine hK _ _ ?_
          clear hK K
          refine wpAny_done (by kernel_rfl) ?_ _
          obtain ⟨a6, c6, rfl⟩ := owns_form hown6
          have HE6 : Hid (w6.ownsRow w.heap.size 24 1 (.slice a6 (vs.take 0 ++ [Value.slice ua un uc] ++ vs.drop 0).length c6) (vs.take 0 ++ [Value.slice ua un uc] ++ vs.drop 0).length (vs.take 0 ++ [Value.slice ua un uc] ++ vs.drop 0)) := Lib.hid hown6
          have HB6 := Lib.hid hB6
          clear hown6 hg6 hB6
          generalize hvl : (vs.take 0 ++ [Value.slice ua un uc] ++ vs.drop 0).length = vl at *
          have HVL := Lib.hid hvl
          clear hvl
          go_wp2_with fail
          go_ret
          refine ⟨_, rfl, ?_, HB6.out⟩
          rw [← HAt.out]
          have h9 := HE6.out
          rw [← HVL.out] at h9 ⊢
          exact h9
      · go_simp
        refine hK _ _ ?_
        clear hK K
        have hS1 : Src24 ((w.alloc (.cells #[.slice ua un uc] 24)).drew) (.slice (some ⟨w.heap.size, 0, none⟩) 1 1) [.slice ua un uc] := Src24.lit w (.slice ua un uc)
        have hB1 : Below w.heap.size w ((w.alloc (.cells #[.slice ua un uc] 24)).drew) := ((Below.refl _ w).alloc (Nat.le_refl _) _).drew
        have hs1 : ((w.alloc (.cells #[.slice ua un uc] 24)).drew).heap.size = w.heap.size + 1 := World.size_alloc _ _
        generalize ((w.alloc (.cells #[.slice ua un uc] 24)).drew) = w1 at *
        refine wpAny_ready (rs := [0]) (by kernel_rfl) (by simp) (AllReady.cons rfl (fun K hK => ?_) AllReady.nil)
        go_simp
        refine hK _ _ ?_
        clear hK K
        have hO2 := lit0_own (w := w1) (B := w.heap.size) hB1.size
        have hS2 := hS1.below ((Below.refl _ w1).alloc (Nat.le_refl _) (.cells #[] 24))
        have hB2 : Below w.heap.size w (w1.alloc (.cells #[] 24)) := hB1.alloc hB1.size _
        have hs2 : (w1.alloc (.cells #[] 24)).heap.size = w1.heap.size + 1 := World.size_alloc _ _
        rw [hs1] at hO2
        generalize (w1.alloc (.cells #[] 24)) = w2 at *
        refine wpAny_ready (rs := [4]) (by kernel_rfl) (by simp) (AllReady.cons rfl (fun K hK => ?_) AllReady.nil)
        rw [if_pos (by rfl)]
        refine wp_append24 _ _ rfl w.heap.size _ _ [] (vs.take 0) rfl hO2 rfl (HS1.out.below hB2) HO1.out HL1.out (by omega) ?_
        intro v3 w3 hown3 hg3
        refine hK _ _ ?_
        clear hK K
        rw [List.nil_append] at hown3
        have hB3 : Below w.heap.size w w3 := (hB2).grown hg3 (hB2).size fun k e => by have e' : (w.heap.size + 1) = k := Option.some.inj e; omega
        have hS3 := hS2.grown hg3 (by intro e; have e' : w.heap.size + 1 = w.heap.size := Option.some.inj e; omega)
        refine wpAny_ready (rs := [7]) (by kernel_rfl) (by simp) (AllReady.cons rfl (fun K hK => ?_) AllReady.nil)
        rw [if_pos (by rfl)]
        refine wp_append24 _ _ rfl w.heap.size _ _ (vs.take 0) [.slice ua un uc] rfl hown3 rfl hS3 one_sl HL2.out (hB3).size ?_
        intro v5 w5 hown5 hg5
        refine hK _ _ ?_
        clear hK K
        have hB5 : Below w.heap.size w w5 := (hB3).grown hg5 (hB3).size fun k e => ((hown3).lt k e).1
        refine wpAny_ready (rs := [11]) (by kernel_rfl) (by simp) (AllReady.cons rfl (fun K hK => ?_) AllReady.nil)
        rw [if_pos (by rfl)]
        refine wp_append24 _ _ rfl w.heap.size v5 _ (vs.take 0 ++ [.slice ua un uc]) (vs.drop 0) rfl hown5 rfl (HS2.out.below hB5) HO2.out HL3.out hB5.size ?_
        intro v6 w6 hown6 hg6
        refine hK _ _ ?_
        clear hK K
        have hB6 : Below w.heap.size w w6 := hB5.grown hg6 hB5.size fun k e => (hown5.lt k e).1
        refine wpAny_ready (rs := [12]) (by kernel_rfl) (by simp) (AllReady.cons rfl (fun K hK => ?_) AllReady.nil)
        go_simp
        refine hK _ _ ?_
        clear hK K
        refine wpAny_done (by kernel_rfl) ?_ _
        obtain ⟨a6, c6, rfl⟩ := owns_form hown6
        have HE6 : Hid (w6.ownsRow w.heap.size 24 1 (.slice a6 (vs.take 0 ++ [Value.slice ua un uc] ++ vs.drop 0).length c6) (vs.take 0 ++ [Value.slice ua un uc] ++ vs.drop 0).length (vs.take 0 ++ [Value.slice ua un uc] ++ vs.drop 0)) := Lib.hid hown6
        have HB6 := Lib.hid hB6
        clear hown6 hg6 hB6
        generalize hvl : (vs.take 0 ++ [Value.slice ua un uc] ++ vs.drop 0).length = vl at *
        have HVL := Lib.hid hvl
        clear hvl
        go_wp2_with fail
        go_ret
        refine ⟨_, rfl, ?_, HB6.out⟩
        rw [← HAt.out]
        have h9 := HE6.out
        rw [← HVL.out] at h9 ⊢
        exact h9
  · have HC : Hid (∀ j y, vs[j]? = some y → w.cell? ⟨g, j, none⟩ = some y) := Lib.hid (fun j y hy => by
      have hj := (List.getElem?_eq_some_iff.1 hy).1
      rw [World.ownsRow.cellAt h j (by omega)]; exact hy)
    obtain ⟨p, hp⟩ : ∃ p, (if c = a then 0 else a) = p := ⟨_, rfl⟩
    have HS1 : Hid (Src24 w (.slice (some ⟨g, 0, none⟩) a c) (vs.take a)) := Lib.hid (s24_take HC.out (by omega))
    have HS2 : Hid (Src24 w (.slice (some ⟨g, p, none⟩) (n - a) (c - a)) (vs.drop a)) := Lib.hid (s24_drop HC.out hvl hnc hp)
    have HP := Lib.hid hp
    have HVl := Lib.hid hvl
    clear h hp hvl
    go_enter Try.func78, Try.ntmps78
    go_wp2_with fail
    go_loop [5] (fun aa => ∃ k : Nat, k ≤ a ∧ aa = .int .i64 k) (fun aa => a + 1 - (intOf aa).toNat)
    case atStart => exact ⟨0, Nat.zero_le _, rfl⟩
    case round =>
      obtain ⟨k, hk, rfl⟩ := hrel
      by_cases hkn : k < n
      · obtain ⟨y, hy⟩ : ∃ y, vs[k]? = some y := ⟨vs[k]'(by rw [HVl.out]; exact hkn), by simp⟩
        obtain ⟨l, hlk⟩ : ∃ l, L[k]? = some l := ⟨L[k]'(by rw [← HNn.out]; exact hkn), by simp⟩
        have hcy := HC.out k y hy
        have hyn := HW.out k y l hy hlk
        have hll := HLl.out l (List.mem_of_getElem? hlk)
        have hgl : L.getD k [] = l := by simp [List.getD, hlk]
        have HCl := Lib.hid (HBe.out y l w hyn HU.out hll)
        obtain ⟨ya, yc, rfl, _, _, _⟩ := Nats.open hyn
        have HG := Lib.hid hgl
        clear hyn hll hgl hy hlk
        by_cases hka : k < a
        · have hb : bef l x = true := by rw [← HG.out]; exact (HSp.out k).1 hka
          rw [hb] at HCl
          clear hb
          go_wp2_with fail
          refine HCl.out.mono ?_
          rintro e w' ⟨rfl, rfl⟩
          go_wp2_with fail
          go_round
          case rel => exact ⟨k + 1, by omega, by go_num⟩
          case measure => simp [intOf]; omega
        · have hkk : k = a := by omega
          have hb : bef l x = false := by rw [← HG.out]; exact (HSp.out k).2 hkk hkn
          rw [hb] at HCl
          subst hkk
          have hac : k ≤ c := by omega
          have hkn' : k ≤ n := by omega
          clear hb
          go_wp2_with fail
          refine HCl.out.mono ?_
          rintro e w' ⟨rfl, rfl⟩
          clear HCl hcy
          go_wp2_with fail
          refine wp_region_any (by kernel_rfl) ?_
          change wpAny _ _ _ _ _ _ _ (World.drew _)
          refine wpAny_take (i := 1) (v := .slice (some ⟨g, 0, none⟩) n c) rfl (by kernel_rfl) (by kernel_rfl) (by kernel_rfl) (fun _ _ _ h => h) (Or.inl ⟨by rfl, ?_⟩) ?_
          · intro w'
            go_simp
          simp only [Act.put]
          refine wpAny_take (i := 2) (v := .int .i64 k) rfl (by kernel_rfl) (by kernel_rfl) (by kernel_rfl) (fun _ _ _ h => h) (Or.inl ⟨by rfl, ?_⟩) ?_
          · intro w'
            go_simp
          simp only [Act.put]
          refine wpAny_take (i := 3) (v := .slice (some ⟨g, 0, none⟩) k c) rfl (by kernel_rfl) (by kernel_rfl) (by kernel_rfl) (fun _ _ _ h => h) (Or.inl ⟨by rfl, ?_⟩) ?_
          · intro w'
            go_simp
          simp only [Act.put]
          refine wpAny_take (i := 5) (v := .slice ua un uc) rfl (by kernel_rfl) (by kernel_rfl) (by kernel_rfl) (fun _ _ _ h => h) (Or.inl ⟨by rfl, ?_⟩) ?_
          · intro w'
            go_simp
          simp only [Act.put]
          refine wpAny_take (i := 8) (v := .slice (some ⟨g, 0, none⟩) n c) rfl (by kernel_rfl) (by kernel_rfl) (by kernel_rfl) (fun _ _ _ h => h) (Or.inl ⟨by rfl, ?_⟩) ?_
          · intro w'
            go_simp
          simp only [Act.put]
          refine wpAny_take (i := 9) (v := .int .i64 k) rfl (by kernel_rfl) (by kernel_rfl) (by kernel_rfl) (fun _ _ _ h => h) (Or.inl ⟨by rfl, ?_⟩) ?_
          · intro w'
            go_simp
          simp only [Act.put]
          refine wpAny_take (i := 10) (v := .slice (some ⟨g, p, none⟩) (n - k) (c - k)) rfl (by kernel_rfl) (by kernel_rfl) (by kernel_rfl) (fun _ _ _ h => h) (Or.inl ⟨by rfl, ?_⟩) ?_
          · intro w'
            go_simp
            rw [← HP.out]
            split <;> rfl
          simp only [Act.put]
          refine wpAny_ready (rs := [0, 6]) (by kernel_rfl) (by simp) (AllReady.cons rfl (fun K hK => ?_) (AllReady.cons rfl (fun K hK => ?_) AllReady.nil))
          · go_simp
            refine hK _ _ ?_
            clear hK K
            have hO1 : ((w.alloc (.cells #[] 24)).drew).ownsRow w.heap.size 24 1 (.slice (some ⟨w.heap.size, 0, none⟩) 0 0) ([] : List Value).length ([] : List Value) := lit0_own (Nat.le_refl _)
            have hB1 : Below w.heap.size w ((w.alloc (.cells #[] 24)).drew) := ((Below.refl _ w).alloc (Nat.le_refl _) _).drew
            have hs1 : ((w.alloc (.cells #[] 24)).drew).heap.size = w.heap.size + 1 := World.size_alloc _ _
            generalize ((w.alloc (.cells #[] 24)).drew) = w1 at *
            refine wpAny_ready (rs := [4, 6]) (by kernel_rfl) (by simp) (AllReady.cons rfl (fun K hK => ?_) (AllReady.cons rfl (fun K hK => ?_) AllReady.nil))
            · rw [if_pos (by rfl)]
              refine wp_append24 _ _ rfl w.heap.size _ _ [] (vs.take k) rfl hO1 rfl (HS1.out.below hB1) HO1.out HL1.out (by omega) ?_
              intro v3 w3 hown3 hg3
              refine hK _ _ ?_
              clear hK K
              rw [List.nil_append] at hown3
              have hB3 : Below w.heap.size w w3 := (hB1).grown hg3 (hB1).size fun k e => by have e' : w.heap.size = k := Option.some.inj e; omega
              refine wpAny_ready (rs := [6]) (by kernel_rfl) (by simp) (AllReady.cons rfl (fun K hK => ?_) AllReady.nil)
              go_simp
              refine hK _ _ ?_
              clear hK K
              have hO4 := owns_below hown3 ((Below.refl _ w3).alloc (Nat.le_refl _) (.cells #[.slice ua un uc] 24)) (Nat.le_refl _)
              have hS4 := Src24.lit w3 (.slice ua un uc)
              have hB4 : Below w.heap.size w (w3.alloc (.cells #[.slice ua un uc] 24)) := hB3.alloc hB3.size _
              generalize (w3.alloc (.cells #[.slice ua un uc] 24)) = w4 at *
              refine wpAny_ready (rs := [7]) (by kernel_rfl) (by simp) (AllReady.cons rfl (fun K hK => ?_) AllReady.nil)
              rw [if_pos (by rfl)]
              refine wp_append24 _ _ rfl w.heap.size _ _ (vs.take k) [.slice ua un uc] rfl hO4 rfl hS4 one_sl HL2.out (hB4).size ?_
              intro v5 w5 hown5 hg5
              refine hK _ _ ?_
              clear hK K
              have hB5 : Below w.heap.size w w5 := (hB4).grown hg5 (hB4).size fun k e => ((hO4).lt k e).1
              refine wpAny_ready (rs := [11]) (by kernel_rfl) (by simp) (AllReady.cons rfl (fun K hK => ?_) AllReady.nil)
              rw [if_pos (by rfl)]
              refine wp_append24 _ _ rfl w.heap.size v5 _ (vs.take k ++ [.slice ua un uc]) (vs.drop k) rfl hown5 rfl (HS2.out.below hB5) HO2.out HL3.out hB5.size ?_
              intro v6 w6 hown6 hg6
              refine hK _ _ ?_
              clear hK K
              have hB6 : Below w.heap.size w w6 := hB5.grown hg6 hB5.size fun k e => (hown5.lt k e).1
              refine wpAny_ready (rs := [12]) (by kernel_rfl) (by simp) (AllReady.cons rfl (fun K hK => ?_) AllReady.nil)
              go_simp
              refine hK _ _ ?_
              clear hK K
              refine wpAny_done (by kernel_rfl) ?_ _
              obtain ⟨a6, c6, rfl⟩ := owns_form hown6
              have HE6 : Hid (w6.ownsRow w.heap.size 24 1 (.slice a6 (vs.take k ++ [Value.slice ua un uc] ++ vs.drop k).length c6) (vs.take k ++ [Value.slice ua un uc] ++ vs.drop k).length (vs.take k ++ [Value.slice ua un uc] ++ vs.drop k)) := Lib.hid hown6
              have HB6 := Lib.hid hB6
              clear hown6 hg6 hB6
              generalize hvl : (vs.take k ++ [Value.slice ua un uc] ++ vs.drop k).length = vl at *
              have HVL := Lib.hid hvl
              clear hvl
              go_wp2_with fail
              go_ret
              refine ⟨_, rfl, ?_, HB6.out⟩
              rw [← HAt.out]
              have h9 := HE6.out
              rw [← HVL.out] at h9 ⊢
              exact h9
            · go_simp
              refine hK _ _ ?_
              clear hK K
              have hO2 := owns_below hO1 ((Below.refl _ w1).alloc (Nat.le_refl _) (.cells #[.slice ua un uc] 24)) (Nat.le_refl _)
              have hS2 := Src24.lit w1 (.slice ua un uc)
              have hB2 : Below w.heap.size w (w1.alloc (.cells #[.slice ua un uc] 24)) := hB1.alloc hB1.size _
              have hs2 : (w1.alloc (.cells #[.slice ua un uc] 24)).heap.size = w1.heap.size + 1 := World.size_alloc _ _
              rw [hs1] at hS2
              generalize (w1.alloc (.cells #[.slice ua un uc] 24)) = w2 at *
              refine wpAny_ready (rs := [4]) (by kernel_rfl) (by simp) (AllReady.cons rfl (fun K hK => ?_) AllReady.nil)
              rw [if_pos (by rfl)]
              refine wp_append24 _ _ rfl w.heap.size _ _ [] (vs.take k) rfl hO2 rfl (HS1.out.below hB2) HO1.out HL1.out (by omega) ?_
              intro v3 w3 hown3 hg3
              refine hK _ _ ?_
              clear hK K
              rw [List.nil_append] at hown3
              have hB3 : Below w.heap.size w w3 := (hB2).grown hg3 (hB2).size fun k e => by have e' : w.heap.size = k := Option.some.inj e; omega
              have hS3 := hS2.grown hg3 (by intro e; have e' : w.heap.size = w.heap.size + 1 := Option.some.inj e; omega)
              refine wpAny_ready (rs := [7]) (by kernel_rfl) (by simp) (AllReady.cons rfl (fun K hK => ?_) AllReady.nil)
              rw [if_pos (by rfl)]
              refine wp_append24 _ _ rfl w.heap.size _ _ (vs.take k) [.slice ua un uc] rfl hown3 rfl hS3 one_sl HL2.out (hB3).size ?_
              intro v5 w5 hown5 hg5
              refine hK _ _ ?_
              clear hK K
              have hB5 : Below w.heap.size w w5 := (hB3).grown hg5 (hB3).size fun k e => ((hown3).lt k e).1
              refine wpAny_ready (rs := [11]) (by kernel_rfl) (by simp) (AllReady.cons rfl (fun K hK => ?_) AllReady.nil)
              rw [if_pos (by rfl)]
              refine wp_append24 _ _ rfl w.heap.size v5 _ (vs.take k ++ [.slice ua un uc]) (vs.drop k) rfl hown5 rfl (HS2.out.below hB5) HO2.out HL3.out hB5.size ?_
              intro v6 w6 hown6 hg6
              refine hK _ _ ?_
              clear hK K
              have hB6 : Below w.heap.size w w6 := hB5.grown hg6 hB5.size fun k e => (hown5.lt k e).1
              refine wpAny_ready (rs := [12]) (by kernel_rfl) (by simp) (AllReady.cons rfl (fun K hK => ?_) AllReady.nil)
              go_simp
              refine hK _ _ ?_
              clear hK K
              refine wpAny_done (by kernel_rfl) ?_ _
              obtain ⟨a6, c6, rfl⟩ := owns_form hown6
              have HE6 : Hid (w6.ownsRow w.heap.size 24 1 (.slice a6 (vs.take k ++ [Value.slice ua un uc] ++ vs.drop k).length c6) (vs.take k ++ [Value.slice ua un uc] ++ vs.drop k).length (vs.take k ++ [Value.slice ua un uc] ++ vs.drop k)) := Lib.hid hown6
              have HB6 := Lib.hid hB6
              clear hown6 hg6 hB6
              generalize hvl : (vs.take k ++ [Value.slice ua un uc] ++ vs.drop k).length = vl at *
              have HVL := Lib.hid hvl
              clear hvl
              go_wp2_with fail
              go_ret
              refine ⟨_, rfl, ?_, HB6.out⟩
              rw [← HAt.out]
              have h9 := HE6.out
              rw [← HVL.out] at h9 ⊢
              exact h9
          · go_simp
            refine hK _ _ ?_
            clear hK K
            have hS1 : Src24 ((w.alloc (.cells #[.slice ua un uc] 24)).drew) (.slice (some ⟨w.heap.size, 0, none⟩) 1 1) [.slice ua un uc] := Src24.lit w (.slice ua un uc)
            have hB1 : Below w.heap.size w ((w.alloc (.cells #[.slice ua un uc] 24)).drew) := ((Below.refl _ w).alloc (Nat.le_refl _) _).drew
            have hs1 : ((w.alloc (.cells #[.slice ua un uc] 24)).drew).heap.size = w.heap.size + 1 := World.size_alloc _ _
            generalize ((w.alloc (.cells #[.slice ua un uc] 24)).drew) = w1 at *
            refine wpAny_ready (rs := [0]) (by kernel_rfl) (by simp) (AllReady.cons rfl (fun K hK => ?_) AllReady.nil)
            go_simp
            refine hK _ _ ?_
            clear hK K
            have hO2 := lit0_own (w := w1) (B := w.heap.size) hB1.size
            have hS2 := hS1.below ((Below.refl _ w1).alloc (Nat.le_refl _) (.cells #[] 24))
            have hB2 : Below w.heap.size w (w1.alloc (.cells #[] 24)) := hB1.alloc hB1.size _
            have hs2 : (w1.alloc (.cells #[] 24)).heap.size = w1.heap.size + 1 := World.size_alloc _ _
            rw [hs1] at hO2
            generalize (w1.alloc (.cells #[] 24)) = w2 at *
            refine wpAny_ready (rs := [4]) (by kernel_rfl) (by simp) (AllReady.cons rfl (fun K hK => ?_) AllReady.nil)
            rw [if_pos (by rfl)]
            refine wp_append24 _ _ rfl w.heap.size _ _ [] (vs.take k) rfl hO2 rfl (HS1.out.below hB2) HO1.out HL1.out (by omega) ?_
            intro v3 w3 hown3 hg3
            refine hK _ _ ?_
            clear hK K
            rw [List.nil_append] at hown3
            have hB3 : Below w.heap.size w w3 := (hB2).grown hg3 (hB2).size fun k e => by have e' : (w.heap.size + 1) = k := Option.some.inj e; omega
            have hS3 := hS2.grown hg3 (by intro e; have e' : w.heap.size + 1 = w.heap.size := Option.some.inj e; omega)
            refine wpAny_ready (rs := [7]) (by kernel_rfl) (by simp) (AllReady.cons rfl (fun K hK => ?_) AllReady.nil)
            rw [if_pos (by rfl)]
            refine wp_append24 _ _ rfl w.heap.size _ _ (vs.take k) [.slice ua un uc] rfl hown3 rfl hS3 one_sl HL2.out (hB3).size ?_
            intro v5 w5 hown5 hg5
            refine hK _ _ ?_
            clear hK K
            have hB5 : Below w.heap.size w w5 := (hB3).grown hg5 (hB3).size fun k e => ((hown3).lt k e).1
            refine wpAny_ready (rs := [11]) (by kernel_rfl) (by simp) (AllReady.cons rfl (fun K hK => ?_) AllReady.nil)
            rw [if_pos (by rfl)]
            refine wp_append24 _ _ rfl w.heap.size v5 _ (vs.take k ++ [.slice ua un uc]) (vs.drop k) rfl hown5 rfl (HS2.out.below hB5) HO2.out HL3.out hB5.size ?_
            intro v6 w6 hown6 hg6
            refine hK _ _ ?_
            clear hK K
            have hB6 : Below w.heap.size w w6 := hB5.grown hg6 hB5.size fun k e => (hown5.lt k e).1
            refine wpAny_ready (rs := [12]) (by kernel_rfl) (by simp) (AllReady.cons rfl (fun K hK => ?_) AllReady.nil)
            go_simp
            refine hK _ _ ?_
            clear hK K
            refine wpAny_done (by kernel_rfl) ?_ _
            obtain ⟨a6, c6, rfl⟩ := owns_form hown6
            have HE6 : Hid (w6.ownsRow w.heap.size 24 1 (.slice a6 (vs.take k ++ [Value.slice ua un uc] ++ vs.drop k).length c6) (vs.take k ++ [Value.slice ua un uc] ++ vs.drop k).length (vs.take k ++ [Value.slice ua un uc] ++ vs.drop k)) := Lib.hid hown6
            have HB6 := Lib.hid hB6
            clear hown6 hg6 hB6
            generalize hvl : (vs.take k ++ [Value.slice ua un uc] ++ vs.drop k).length = vl at *
            have HVL := Lib.hid hvl
            clear hvl
            go_wp2_with fail
            go_ret
            refine ⟨_, rfl, ?_, HB6.out⟩
            rw [← HAt.out]
            have h9 := HE6.out
            rw [← HVL.out] at h9 ⊢
            exact h9
      · have hkk : k = a := by omega
        have hkn2 : k = n := by omega
        subst hkk
        have hac : k ≤ c := by omega
        have hkn' : k ≤ n := by omega
        have hkn3 : ¬ (k : Int) < (n : Int) := by omega
        clear hkn2
        go_wp2_with fail
        refine wp_region_any (by kernel_rfl) ?_
        change wpAny _ _ _ _ _ _ _ (World.drew _)
        refine wpAny_take (i := 1) (v := .slice (some ⟨g, 0, none⟩) n c) rfl (by kernel_rfl) (by kernel_rfl) (by kernel_rfl) (fun _ _ _ h => h) (Or.inl ⟨by rfl, ?_⟩) ?_
        · intro w'
          go_simp
        simp only [Act.put]
        refine wpAny_take (i := 2) (v := .int .i64 k) rfl (by kernel_rfl) (by kernel_rfl) (by kernel_rfl) (fun _ _ _ h => h) (Or.inl ⟨by rfl, ?_⟩) ?_
        · intro w'
          go_simp
        simp only [Act.put]
        refine wpAny_take (i := 3) (v := .slice (some ⟨g, 0, none⟩) k c) rfl (by kernel_rfl) (by kernel_rfl) (by kernel_rfl) (fun _ _ _ h => h) (Or.inl ⟨by rfl, ?_⟩) ?_
        · intro w'
          go_simp
        simp only [Act.put]
        refine wpAny_take (i := 5) (v := .slice ua un uc) rfl (by kernel_rfl) (by kernel_rfl) (by kernel_rfl) (fun _ _ _ h => h) (Or.inl ⟨by rfl, ?_⟩) ?_
        · intro w'
          go_simp
        simp only [Act.put]
        refine wpAny_take (i := 8) (v := .slice (some ⟨g, 0, none⟩) n c) rfl (by kernel_rfl) (by kernel_rfl) (by kernel_rfl) (fun _ _ _ h => h) (Or.inl ⟨by rfl, ?_⟩) ?_
        · intro w'
          go_simp
        simp only [Act.put]
        refine wpAny_take (i := 9) (v := .int .i64 k) rfl (by kernel_rfl) (by kernel_rfl) (by kernel_rfl) (fun _ _ _ h => h) (Or.inl ⟨by rfl, ?_⟩) ?_
        · intro w'
          go_simp
        simp only [Act.put]
        refine wpAny_take (i := 10) (v := .slice (some ⟨g, p, none⟩) (n - k) (c - k)) rfl (by kernel_rfl) (by kernel_rfl) (by kernel_rfl) (fun _ _ _ h => h) (Or.inl ⟨by rfl, ?_⟩) ?_
        · intro w'
          go_simp
          rw [← HP.out]
          split <;> rfl
        simp only [Act.put]
        refine wpAny_ready (rs := [0, 6]) (by kernel_rfl) (by simp) (AllReady.cons rfl (fun K hK => ?_) (AllReady.cons rfl (fun K hK => ?_) AllReady.nil))
        · go_simp
          refine hK _ _ ?_
          clear hK K
          have hO1 : ((w.alloc (.cells #[] 24)).drew).ownsRow w.heap.size 24 1 (.slice (some ⟨w.heap.size, 0, none⟩) 0 0) ([] : List Value).length ([] : List Value) := lit0_own (Nat.le_refl _)
          have hB1 : Below w.heap.size w ((w.alloc (.cells #[] 24)).drew) := ((Below.refl _ w).alloc (Nat.le_refl _) _).drew
          have hs1 : ((w.alloc (.cells #[] 24)).drew).heap.size = w.heap.size + 1 := World.size_alloc _ _
          generalize ((w.alloc (.cells #[] 24)).drew) = w1 at *
          refine wpAny_ready (rs := [4, 6]) (by kernel_rfl) (by simp) (AllReady.cons rfl (fun K hK => ?_) (AllReady.cons rfl (fun K hK => ?_) AllReady.nil))
          · rw [if_pos (by rfl)]
            refine wp_append24 _ _ rfl w.heap.size _ _ [] (vs.take k) rfl hO1 rfl (HS1.out.below hB1) HO1.out HL1.out (by omega) ?_
            intro v3 w3 hown3 hg3
            refine hK _ _ ?_
            clear hK K
            rw [List.nil_append] at hown3
            have hB3 : Below w.heap.size w w3 := (hB1).grown hg3 (hB1).size fun k e => by have e' : w.heap.size = k := Option.some.inj e; omega
            refine wpAny_ready (rs := [6]) (by kernel_rfl) (by simp) (AllReady.cons rfl (fun K hK => ?_) AllReady.nil)
            go_simp
            refine hK _ _ ?_
            clear hK K
            have hO4 := owns_below hown3 ((Below.refl _ w3).alloc (Nat.le_refl _) (.cells #[.slice ua un uc] 24)) (Nat.le_refl _)
            have hS4 := Src24.lit w3 (.slice ua un uc)
            have hB4 : Below w.heap.size w (w3.alloc (.cells #[.slice ua un uc] 24)) := hB3.alloc hB3.size _
            generalize (w3.alloc (.cells #[.slice ua un uc] 24)) = w4 at *
            refine wpAny_ready (rs := [7]) (by kernel_rfl) (by simp) (AllReady.cons rfl (fun K hK => ?_) AllReady.nil)
            rw [if_pos (by rfl)]
            refine wp_append24 _ _ rfl w.heap.size _ _ (vs.take k) [.slice ua un uc] rfl hO4 rfl hS4 one_sl HL2.out (hB4).size ?_
            intro v5 w5 hown5 hg5
            refine hK _ _ ?_
            clear hK K
            have hB5 : Below w.heap.size w w5 := (hB4).grown hg5 (hB4).size fun k e => ((hO4).lt k e).1
            refine wpAny_ready (rs := [11]) (by kernel_rfl) (by simp) (AllReady.cons rfl (fun K hK => ?_) AllReady.nil)
            rw [if_pos (by rfl)]
            refine wp_append24 _ _ rfl w.heap.size v5 _ (vs.take k ++ [.slice ua un uc]) (vs.drop k) rfl hown5 rfl (HS2.out.below hB5) HO2.out HL3.out hB5.size ?_
            intro v6 w6 hown6 hg6
            refine hK _ _ ?_
            clear hK K
            have hB6 : Below w.heap.size w w6 := hB5.grown hg6 hB5.size fun k e => (hown5.lt k e).1
            refine wpAny_ready (rs := [12]) (by kernel_rfl) (by simp) (AllReady.cons rfl (fun K hK => ?_) AllReady.nil)
            go_simp
            refine hK _ _ ?_
            clear hK K
            refine wpAny_done (by kernel_rfl) ?_ _
            obtain ⟨a6, c6, rfl⟩ := owns_form hown6
            have HE6 : Hid (w6.ownsRow w.heap.size 24 1 (.slice a6 (vs.take k ++ [Value.slice ua un uc] ++ vs.drop k).length c6) (vs.take k ++ [Value.slice ua un uc] ++ vs.drop k).length (vs.take k ++ [Value.slice ua un uc] ++ vs.drop k)) := Lib.hid hown6
            have HB6 := Lib.hid hB6
            clear hown6 hg6 hB6
            generalize hvl : (vs.take k ++ [Value.slice ua un uc] ++ vs.drop k).length = vl at *
            have HVL := Lib.hid hvl
            clear hvl
            go_wp2_with fail
            go_ret
            refine ⟨_, rfl, ?_, HB6.out⟩
            rw [← HAt.out]
            have h9 := HE6.out
            rw [← HVL.out] at h9 ⊢
            exact h9
          · go_simp
            refine hK _ _ ?_
            clear hK K
            have hO2 := owns_below hO1 ((Below.refl _ w1).alloc (Nat.le_refl _) (.cells #[.slice ua un uc] 24)) (Nat.le_refl _)
            have hS2 := Src24.lit w1 (.slice ua un uc)
            have hB2 : Below w.heap.size w (w1.alloc (.cells #[.slice ua un uc] 24)) := hB1.alloc hB1.size _
            have hs2 : (w1.alloc (.cells #[.slice ua un uc] 24)).heap.size = w1.heap.size + 1 := World.size_alloc _ _
            rw [hs1] at hS2
            generalize (w1.alloc (.cells #[.slice ua un uc] 24)) = w2 at *
            refine wpAny_ready (rs := [4]) (by kernel_rfl) (by simp) (AllReady.cons rfl (fun K hK => ?_) AllReady.nil)
            rw [if_pos (by rfl)]
            refine wp_append24 _ _ rfl w.heap.size _ _ [] (vs.take k) rfl hO2 rfl (HS1.out.below hB2) HO1.out HL1.out (by omega) ?_
            intro v3 w3 hown3 hg3
            refine hK _ _ ?_
            clear hK K
            rw [List.nil_append] at hown3
            have hB3 : Below w.heap.size w w3 := (hB2).grown hg3 (hB2).size fun k e => by have e' : w.heap.size = k := Option.some.inj e; omega
            have hS3 := hS2.grown hg3 (by intro e; have e' : w.heap.size = w.heap.size + 1 := Option.some.inj e; omega)
            refine wpAny_ready (rs := [7]) (by kernel_rfl) (by simp) (AllReady.cons rfl (fun K hK => ?_) AllReady.nil)
            rw [if_pos (by rfl)]
            refine wp_append24 _ _ rfl w.heap.size _ _ (vs.take k) [.slice ua un uc] rfl hown3 rfl hS3 one_sl HL2.out (hB3).size ?_
            intro v5 w5 hown5 hg5
            refine hK _ _ ?_
            clear hK K
            have hB5 : Below w.heap.size w w5 := (hB3).grown hg5 (hB3).size fun k e => ((hown3).lt k e).1
            refine wpAny_ready (rs := [11]) (by kernel_rfl) (by simp) (AllReady.cons rfl (fun K hK => ?_) AllReady.nil)
            rw [if_pos (by rfl)]
            refine wp_append24 _ _ rfl w.heap.size v5 _ (vs.take k ++ [.slice ua un uc]) (vs.drop k) rfl hown5 rfl (HS2.out.below hB5) HO2.out HL3.out hB5.size ?_
            intro v6 w6 hown6 hg6
            refine hK _ _ ?_
            clear hK K
            have hB6 : Below w.heap.size w w6 := hB5.grown hg6 hB5.size fun k e => (hown5.lt k e).1
            refine wpAny_ready (rs := [12]) (by kernel_rfl) (by simp) (AllReady.cons rfl (fun K hK => ?_) AllReady.nil)
            go_simp
            refine hK _ _ ?_
            clear hK K
            refine wpAny_done (by kernel_rfl) ?_ _
            obtain ⟨a6, c6, rfl⟩ := owns_form hown6
            have HE6 : Hid (w6.ownsRow w.heap.size 24 1 (.slice a6 (vs.take k ++ [Value.slice ua un uc] ++ vs.drop k).length c6) (vs.take k ++ [Value.slice ua un uc] ++ vs.drop k).length (vs.take k ++ [Value.slice ua un uc] ++ vs.drop k)) := Lib.hid hown6
            have HB6 := Lib.hid hB6
            clear hown6 hg6 hB6
            generalize hvl : (vs.take k ++ [Value.slice ua un uc] ++ vs.drop k).length = vl at *
            have HVL := Lib.hid hvl
            clear hvl
            go_wp2_with fail
            go_ret
            refine ⟨_, rfl, ?_, HB6.out⟩
            rw [← HAt.out]
            have h9 := HE6.out
            rw [← HVL.out] at h9 ⊢
            exact h9
        · go_simp
          refine hK _ _ ?_
          clear hK K
          have hS1 : Src24 ((w.alloc (.cells #[.slice ua un uc] 24)).drew) (.slice (some ⟨w.heap.size, 0, none⟩) 1 1) [.slice ua un uc] := Src24.lit w (.slice ua un uc)
          have hB1 : Below w.heap.size w ((w.alloc (.cells #[.slice ua un uc] 24)).drew) := ((Below.refl _ w).alloc (Nat.le_refl _) _).drew
          have hs1 : ((w.alloc (.cells #[.slice ua un uc] 24)).drew).heap.size = w.heap.size + 1 := World.size_alloc _ _
          generalize ((w.alloc (.cells #[.slice ua un uc] 24)).drew) = w1 at *
          refine wpAny_ready (rs := [0]) (by kernel_rfl) (by simp) (AllReady.cons rfl (fun K hK => ?_) AllReady.nil)
          go_simp
          refine hK _ _ ?_
          clear hK K
          have hO2 := lit0_own (w := w1) (B := w.heap.size) hB1.size
          have hS2 := hS1.below ((Below.refl _ w1).alloc (Nat.le_refl _) (.cells #[] 24))
          have hB2 : Below w.heap.size w (w1.alloc (.cells #[] 24)) := hB1.alloc hB1.size _
          have hs2 : (w1.alloc (.cells #[] 24)).heap.size = w1.heap.size + 1 := World.size_alloc _ _
          rw [hs1] at hO2
          generalize (w1.alloc (.cells #[] 24)) = w2 at *
          refine wpAny_ready (rs := [4]) (by kernel_rfl) (by simp) (AllReady.cons rfl (fun K hK => ?_) AllReady.nil)
          rw [if_pos (by rfl)]
          refine wp_append24 _ _ rfl w.heap.size _ _ [] (vs.take k) rfl hO2 rfl (HS1.out.below hB2) HO1.out HL1.out (by omega) ?_
          intro v3 w3 hown3 hg3
          refine hK _ _ ?_
          clear hK K
          rw [List.nil_append] at hown3
          have hB3 : Below w.heap.size w w3 := (hB2).grown hg3 (hB2).size fun k e => by have e' : (w.heap.size + 1) = k := Option.some.inj e; omega
          have hS3 := hS2.grown hg3 (by intro e; have e' : w.heap.size + 1 = w.heap.size := Option.some.inj e; omega)
          refine wpAny_ready (rs := [7]) (by kernel_rfl) (by simp) (AllReady.cons rfl (fun K hK => ?_) AllReady.nil)
          rw [if_pos (by rfl)]
          refine wp_append24 _ _ rfl w.heap.size _ _ (vs.take k) [.slice ua un uc] rfl hown3 rfl hS3 one_sl HL2.out (hB3).size ?_
          intro v5 w5 hown5 hg5
          refine hK _ _ ?_
          clear hK K
          have hB5 : Below w.heap.size w w5 := (hB3).grown hg5 (hB3).size fun k e => ((hown3).lt k e).1
          refine wpAny_ready (rs := [11]) (by kernel_rfl) (by simp) (AllReady.cons rfl (fun K hK => ?_) AllReady.nil)
          rw [if_pos (by rfl)]
          refine wp_append24 _ _ rfl w.heap.size v5 _ (vs.take k ++ [.slice ua un uc]) (vs.drop k) rfl hown5 rfl (HS2.out.below hB5) HO2.out HL3.out hB5.size ?_
          intro v6 w6 hown6 hg6
          refine hK _ _ ?_
          clear hK K
          have hB6 : Below w.heap.size w w6 := hB5.grown hg6 hB5.size fun k e => (hown5.lt k e).1
          refine wpAny_ready (rs := [12]) (by kernel_rfl) (by simp) (AllReady.cons rfl (fun K hK => ?_) AllReady.nil)
          go_simp
          refine hK _ _ ?_
          clear hK K
          refine wpAny_done (by kernel_rfl) ?_ _
          obtain ⟨a6, c6, rfl⟩ := owns_form hown6
          have HE6 : Hid (w6.ownsRow w.heap.size 24 1 (.slice a6 (vs.take k ++ [Value.slice ua un uc] ++ vs.drop k).length c6) (vs.take k ++ [Value.slice ua un uc] ++ vs.drop k).length (vs.take k ++ [Value.slice ua un uc] ++ vs.drop k)) := Lib.hid hown6
          have HB6 := Lib.hid hB6
          clear hown6 hg6 hB6
          generalize hvl : (vs.take k ++ [Value.slice ua un uc] ++ vs.drop k).length = vl at *
          have HVL := Lib.hid hvl
          clear hvl
          go_wp2_with fail
          go_ret
          refine ⟨_, rfl, ?_, HB6.out⟩
          rw [← HAt.out]
          have h9 := HE6.out
          rw [← HVL.out] at h9 ⊢
          exact h9
end Go.Proofs.Ytlnbodpdgebflaa
