/- the reference's rising -/
import Derived.Test.YtellnklbkjajbaaDoorSu
import Derived.Laws.OwnMore
namespace Go.Proofs.YtellnklbkjajbaaDoor
open Go.RowKit

theorem owns_form' {w : World} {B n : Nat} {v : Value} {xs : List Int} (h : w.ownsRow B 3 1 v n (ints xs)) : (v = .slice none 0 0 ∧ xs = []) ∨ ∃ g c, v = .slice (some ⟨g, 0, none⟩) n c ∧ n ≤ c := by
  obtain ⟨h1, h2⟩ := h
  rcases h2 with ⟨rfl, rfl⟩ | ⟨g, cap, cur, rfl, _, _, hc, _⟩
  · left
    refine ⟨rfl, List.eq_nil_of_length_eq_zero ?_⟩
    have : (ints xs).length = 0 := by rw [h1]
    rwa [ints_length] at this
  · exact .inr ⟨g, cap, rfl, hc⟩

/-- What an append takes from: nil, or a slice whose cells are told. -/
def Src3 (w : World) (v : Value) (zs : List Int) : Prop :=
  (v = .slice none 0 0 ∧ zs = []) ∨ ∃ ad c, v = .slice (some ad) zs.length c ∧ ∀ (j : Nat) (u : Value), (ints zs)[j]? = some u → w.cell? (ad.add j) = some u
theorem Src3.below {w w' : World} {v : Value} {zs : List Int} (h : Src3 w v zs) (hb : Below w.heap.size w w') : Src3 w' v zs := by
  rcases h with h | ⟨ad, c, e, hc⟩
  · exact .inl h
  · exact .inr ⟨ad, c, e, fun j u hj => ck (hc j u hj) hb⟩

theorem wp_append3 {w : World} {o : Oper} {a : Act} {K : Act → World → Prop} {Q : Exit → Act → World → Prop} (s x : Operand)
    (ho : o.op = .call { callee := .builtin .append, args := #[s, x], argTypes := #[22, 22] }) (B : Nat) (v u : Value) (ys zs : List Int) (hs : a.eval s = v) (hown : w.ownsRow B 3 1 v ys.length (ints ys))
    (hx : a.eval x = u) (hsrc : Src3 w u zs) (hl : ys.length + zs.length ≤ 1000) (hB : B ≤ w.heap.size)
    (h : ∀ v' w', w'.ownsRow B 3 1 v' (ys ++ zs).length (ints (ys ++ zs)) → w.grownBy w' v.ownBlock → K (a.put o.dst v') w') : o.wp Tryd.prog a w K Q := by
  obtain ⟨i0, hi, hz0, hz1, hz2⟩ := info_parts Tryd.info3
  rcases hsrc with ⟨rfl, rfl⟩ | ⟨ad, c, rfl, hc⟩
  · have hrun := run_append_owned_none (P := Tryd.prog) (w := w) B 22 o.type 3 i0 1 Tryd.underlying22 hi v ys.length (ints ys) hown
    unfold Oper.wp
    simp [execOp, ho, resolve, invoke, builtin, hs, hx, hrun, Result.andThen]
    exact h v w (by simpa using hown) ⟨rfl, rfl, rfl, Nat.le_refl _, fun _ _ _ => rfl⟩
  · refine wp_append_own w s x 22 ho B 3 i0 (.int .i64 0) 1 8 Tryd.underlying22 hi hz0 hz1 hz2 rfl (by decide) v ys.length (ints ys) hs hown ad zs.length c (ints zs) hx (by simp [ints]) hc (ints_oneCell _) (by unfold maxLen; omega) (by omega) hB fun v' w' h2 h3 _ => h v' w' ?_ h3
    rw [List.length_append]
    unfold ints at h2 ⊢
    rw [List.map_append]
    exact h2

theorem Src3.grown {w w' : World} {b n : Nat} {zs : List Int} {row : Option Nat} (h : Src3 w (.slice (some ⟨b, 0, none⟩) n n) zs) (hg : w.grownBy w' row) (hr : row ≠ some b) : Src3 w' (.slice (some ⟨b, 0, none⟩) n n) zs := by
  rcases h with ⟨h, _⟩ | ⟨ad, c, e, hc⟩
  · cases h
  · simp only [Value.slice.injEq, Option.some.injEq] at e
    obtain ⟨rfl, rfl, rfl⟩ := e
    refine .inr ⟨_, _, rfl, fun j u hj => ?_⟩
    have h1 := hc j u hj
    exact (World.cell?_of_block (hg.block _ (World.block_lt_of_cell? w _ h1) fun e => hr (by rw [← e, Addr.add_lit]))).trans h1
theorem Src3.lit (w : World) (x : Int) : Src3 (w.alloc (.cells #[.int .i64 x] 3)) (.slice (some ⟨w.heap.size, 0, none⟩) 1 1) [x] := .inr ⟨_, _, rfl, newOne w _ 3⟩
theorem lit0_owns {w : World} {B : Nat} (hB : B ≤ w.heap.size) : (w.alloc (.cells #[] 3)).ownsRow B 3 1 (.slice (some ⟨w.heap.size, 0, none⟩) 0 0) ([] : List Int).length (ints []) :=
  World.ownsRow_lit w #[] 0 hB (by unfold maxLen; omega) rfl

/-- x behind all that are not greater, at the front of a slice. -/
def insS (x : Int) : List Int → List Int
  | [] => [x]
  | y :: ys => if y ≤ x then y :: insS x ys else x :: y :: ys
def risL (xs : List Int) : List Int := xs.foldl (fun l x => insS x l) []
theorem insS_length (x : Int) : ∀ ys : List Int, (insS x ys).length = ys.length + 1
  | [] => rfl
  | y :: ys => by rw [insS]; split <;> simp [insS_length x ys]
theorem insS_at (x : Int) : ∀ (ys : List Int) (k : Nat), k ≤ ys.length → (∀ j, j < k → ys.getD j 0 ≤ x) → (k < ys.length → x < ys.getD k 0) → insS x ys = ys.take k ++ [x] ++ ys.drop k
  | [], k, hk, _, _ => by simp at hk; subst hk; rfl
  | y :: ys, 0, _, _, h => by
    have := h (by simp)
    simp only [List.getD_cons_zero] at this
    rw [insS, if_neg (by omega)]; rfl
  | y :: ys, k + 1, hk, h1, h2 => by
    have := h1 0 (by omega)
    simp only [List.getD_cons_zero] at this
    rw [insS, if_pos this, insS_at x ys k (by simpa using hk) (fun j hj => by simpa using h1 (j + 1) (by omega)) (fun hlt => by simpa using h2 (by simpa using hlt))]
    simp
theorem risL_length (xs : List Int) : (risL xs).length = xs.length := by
  have : ∀ (xs l : List Int), (xs.foldl (fun l x => insS x l) l).length = l.length + xs.length := by
    intro xs
    induction xs with
    | nil => intro l; simp
    | cons x xs ih => intro l; rw [List.foldl_cons, ih, insS_length, List.length_cons]; omega
  rw [risL, this]; simp
theorem insS_I64 (x : Int) (hx : I64 x) : ∀ ys : List Int, (∀ y ∈ ys, I64 y) → ∀ y ∈ insS x ys, I64 y
  | [], _, y, h => by rw [insS, List.mem_singleton] at h; subst h; exact hx
  | z :: ys, hy, y, h => by
    rw [insS] at h
    split at h
    · rcases List.mem_cons.1 h with rfl | h
      · exact hy _ (List.mem_cons_self ..)
      · exact insS_I64 x hx ys (fun y h => hy y (List.mem_cons_of_mem _ h)) y h
    · rcases List.mem_cons.1 h with rfl | h
      · exact hx
      · exact hy y h
theorem risL_I64 (xs : List Int) (h : ∀ x ∈ xs, I64 x) : ∀ x ∈ risL xs, I64 x := by
  have : ∀ (xs l : List Int), (∀ x ∈ xs, I64 x) → (∀ x ∈ l, I64 x) → ∀ x ∈ xs.foldl (fun l x => insS x l) l, I64 x := by
    intro xs
    induction xs with
    | nil => intro l _ h; exact h
    | cons x xs ih => intro l h1 h2; exact ih _ (fun y hy => h1 y (List.mem_cons_of_mem _ hy)) (insS_I64 x (h1 x (List.mem_cons_self ..)) l h2)
  exact this xs [] h (by simp)
theorem risL_snoc (xs : List Int) (x : Int) : risL (xs ++ [x]) = insS x (risL xs) := by simp [risL]

theorem src_take {w : World} {g k c a : Nat} {ys : List Int} (h : ∀ j, j < k → w.cell? ⟨g, j, none⟩ = some (.int .i64 (ys.getD j 0))) (hl : ys.length = k) (ha : a ≤ k) : Src3 w (.slice (some ⟨g, 0, none⟩) a c) (ys.take a) := by
  refine .inr ⟨_, c, by rw [List.length_take, Nat.min_eq_left (by omega)], fun j u hj => ?_⟩
  have hlt := (List.getElem?_eq_some_iff.1 hj).1
  rw [ints_length, List.length_take] at hlt
  rw [Addr.add_lit, Nat.zero_add, h j (by omega), ← hj]
  simp [ints, show j < a by omega, show j < ys.length by omega]
theorem src_drop {w : World} {g k c a p : Nat} {ys : List Int} (h : ∀ j, j < k → w.cell? ⟨g, j, none⟩ = some (.int .i64 (ys.getD j 0))) (hl : ys.length = k) (ha : a ≤ k) (hkc : k ≤ c) (hp : (if c = a then 0 else a) = p) :
    Src3 w (.slice (some ⟨g, p, none⟩) (k - a) (c - a)) (ys.drop a) := by
  refine .inr ⟨_, c - a, by rw [List.length_drop, hl], fun j u hj => ?_⟩
  have hlt := (List.getElem?_eq_some_iff.1 hj).1
  rw [ints_length, List.length_drop] at hlt
  rw [if_neg (by omega)] at hp
  subst hp
  rw [Addr.add_lit, h (a + j) (by omega), ← hj]
  simp [ints, show a + j < ys.length by omega]

set_option maxHeartbeats 4000000 in
set_option maxRecDepth 100000 in
theorem rising_any (v : Value) (xs : List Int) (w : World) (h : Ints w v xs) (hl : xs.length ≤ 20) :
    Calls Tryd.prog 69 #[v] w fun e w' => ∃ v', e = .returned v' ∧ Ints w' v' (risL xs) ∧ Below w.heap.size w w' := by
  have hI64 := h.2
  obtain ⟨ao, cap, rfl, h1, h2, hx⟩ := h.cells
  have HX := Lib.hid hx
  have HI := Lib.hid hI64
  have HB0 := Lib.hid (Below.refl w.heap.size w)
  clear h hx hI64
  go_enter Tryd.func69, Tryd.ntmps69
  go_wp2_with fail
  go_loopw [3, 9] (fun s ii wr => Below w.heap.size w wr ∧ ∃ k : Nat, k ≤ xs.length ∧ ii = .int .i64 k ∧ wr.ownsRow w.heap.size 3 1 s k (ints (risL (xs.take k)))) (fun _ ii _ => xs.length - (intOf ii).toNat)
  case atStart => exact ⟨HB0.out, 0, Nat.zero_le _, rfl, rfl, .inl ⟨rfl, rfl⟩⟩
  case round =>
    obtain ⟨hB, k, hk, rfl, hO⟩ := hrel
    have hrl : (risL (xs.take k)).length = k := by rw [risL_length, List.length_take]; omega
    by_cases hlt : k < xs.length
    · obtain ⟨b, o, rfl, hck⟩ := HX.out wr hB k hlt
      have HST : Hid (risL (xs.take (k + 1)) = insS (xs.getD k 0) (risL (xs.take k))) := Lib.hid (by rw [take_snoc xs k hlt, risL_snoc])
      have HxI : Hid (I64 (xs.getD k 0)) := Lib.hid (HI.out _ (getD_mem hlt))
      have HO := Lib.hid hO
      have HB := Lib.hid hB
      generalize risL (xs.take k) = ys at *
      generalize xs.getD k 0 = x at *
      rcases owns_form' hO with ⟨rfl, hy0⟩ | ⟨g, c, rfl, hkc⟩
      · obtain ⟨a, ha0⟩ : ∃ a, a = 0 := ⟨0, rfl⟩
        have HIn : Hid (insS x ys = ys.take a ++ [x] ++ ys.drop a) := Lib.hid (by rw [hy0, ha0]; rfl)
        have HS1 : Hid (Src3 wr (.slice none 0 0) (ys.take a)) := Lib.hid (.inl ⟨rfl, by rw [hy0, ha0]; rfl⟩)
        have HS2 : Hid (Src3 wr (.slice none 0 0) (ys.drop a)) := Lib.hid (.inl ⟨rfl, by rw [hy0, ha0]; rfl⟩)
        have hyl : ys.length ≤ 0 := by rw [hy0]; exact Nat.le_refl _
        clear hy0 hO hB HO ha0
        go_wp2_with fail
        go_loop [6] (fun aa => aa = .int .i64 0) (fun _ => 0)
        case atStart => rfl
        case round =>
          subst hrel
          go_wp2_with fail
          refine wp_region_any (by kernel_rfl) ?_
          change wpAny _ _ _ _ _ _ _ (World.drew _)
          refine wpAny_take (i := 1) (v := .slice none 0 0) rfl (by kernel_rfl) (by kernel_rfl) (by kernel_rfl) (fun _ _ _ h => h) (Or.inl ⟨by rfl, ?_⟩) ?_
          · intro w'
            go_simp
          simp only [Act.put]
          refine wpAny_take (i := 2) (v := .int .i64 0) rfl (by kernel_rfl) (by kernel_rfl) (by kernel_rfl) (fun _ _ _ h => h) (Or.inl ⟨by rfl, ?_⟩) ?_
          · intro w'
            go_simp
          simp only [Act.put]
          refine wpAny_take (i := 3) (v := .slice none 0 0) rfl (by kernel_rfl) (by kernel_rfl) (by kernel_rfl) (fun _ _ _ h => h) (Or.inl ⟨by rfl, ?_⟩) ?_
          · intro w'
            go_simp
          simp only [Act.put]
          refine wpAny_take (i := 5) (v := .int .i64 x) rfl (by kernel_rfl) (by kernel_rfl) (by kernel_rfl) (fun _ _ _ h => h) (Or.inl ⟨by rfl, ?_⟩) ?_
          · intro w'
            go_simp
          simp only [Act.put]
          refine wpAny_take (i := 8) (v := .slice none 0 0) rfl (by kernel_rfl) (by kernel_rfl) (by kernel_rfl) (fun _ _ _ h => h) (Or.inl ⟨by rfl, ?_⟩) ?_
          · intro w'
            go_simp
          simp only [Act.put]
          refine wpAny_take (i := 9) (v := .int .i64 0) rfl (by kernel_rfl) (by kernel_rfl) (by kernel_rfl) (fun _ _ _ h => h) (Or.inl ⟨by rfl, ?_⟩) ?_
          · intro w'
            go_simp
          simp only [Act.put]
          refine wpAny_take (i := 10) (v := .slice none 0 0) rfl (by kernel_rfl) (by kernel_rfl) (by kernel_rfl) (fun _ _ _ h => h) (Or.inl ⟨by rfl, ?_⟩) ?_
          · intro w'
            go_simp
          simp only [Act.put]
          refine wpAny_ready (rs := [0, 6]) (by kernel_rfl) (by simp) (AllReady.cons rfl (fun K hK => ?_) (AllReady.cons rfl (fun K hK => ?_) AllReady.nil))
          · go_simp
            refine hK _ _ ?_
            clear hK K
            have hO1 : ((wr.alloc (.cells #[] 3)).drew).ownsRow wr.heap.size 3 1 (.slice (some ⟨wr.heap.size, 0, none⟩) 0 0) ([] : List Int).length (ints []) := lit0_owns (Nat.le_refl _)
            have hB1 : Below wr.heap.size wr ((wr.alloc (.cells #[] 3)).drew) := ((Below.refl _ wr).alloc (Nat.le_refl _) _).drew
            have hs1 : ((wr.alloc (.cells #[] 3)).drew).heap.size = wr.heap.size + 1 := World.size_alloc _ _
            generalize ((wr.alloc (.cells #[] 3)).drew) = w1 at *
            refine wpAny_ready (rs := [4, 6]) (by kernel_rfl) (by simp) (AllReady.cons rfl (fun K hK => ?_) (AllReady.cons rfl (fun K hK => ?_) AllReady.nil))
            · rw [if_pos (by rfl)]
              refine wp_append3 _ _ rfl wr.heap.size _ _ [] (ys.take a) rfl hO1 rfl (HS1.out.below hB1) (by first | (simp; done) | (simp; omega)) (by omega) ?_
              intro v3 w3 hown3 hg3
              refine hK _ _ ?_
              clear hK K
              rw [List.nil_append] at hown3
              have hB3 : Below wr.heap.size wr w3 := (hB1).grown hg3 (hB1).size fun k e => by have e' : wr.heap.size = k := Option.some.inj e; omega
              refine wpAny_ready (rs := [6]) (by kernel_rfl) (by simp) (AllReady.cons rfl (fun K hK => ?_) AllReady.nil)
              go_simp
              refine hK _ _ ?_
              clear hK K
              have hO4 := owns_below hown3 ((Below.refl _ w3).alloc (Nat.le_refl _) (.cells #[.int .i64 x] 3)) (Nat.le_refl _)
              have hS4 := Src3.lit w3 x
              have hB4 : Below wr.heap.size wr (w3.alloc (.cells #[.int .i64 x] 3)) := hB3.alloc hB3.size _
              generalize (w3.alloc (.cells #[.int .i64 x] 3)) = w4 at *
              refine wpAny_ready (rs := [7]) (by kernel_rfl) (by simp) (AllReady.cons rfl (fun K hK => ?_) AllReady.nil)
              rw [if_pos (by rfl)]
              refine wp_append3 _ _ rfl wr.heap.size _ _ (ys.take a) [x] rfl hO4 rfl hS4 (by first | (simp; done) | (simp; omega)) (hB4).size ?_
              intro v5 w5 hown5 hg5
              refine hK _ _ ?_
              clear hK K
              have hB5 : Below wr.heap.size wr w5 := (hB4).grown hg5 (hB4).size fun k e => ((hO4).lt k e).1
              refine wpAny_ready (rs := [11]) (by kernel_rfl) (by simp) (AllReady.cons rfl (fun K hK => ?_) AllReady.nil)
              rw [if_pos (by rfl)]
              refine wp_append3 _ _ rfl wr.heap.size _ _ (ys.take a ++ [x]) (ys.drop a) rfl hown5 rfl (HS2.out.below hB5) (by first | (simp; done) | (simp; omega)) hB5.size ?_
              intro v6 w6 hown6 hg6
              refine hK _ _ ?_
              clear hK K
              have hB6 : Below wr.heap.size wr w6 := hB5.grown hg6 hB5.size fun k e => (hown5.lt k e).1
              rw [← HIn.out] at hown6
              refine wpAny_ready (rs := [12]) (by kernel_rfl) (by simp) (AllReady.cons rfl (fun K hK => ?_) AllReady.nil)
              go_simp
              refine hK _ _ ?_
              clear hK K
              refine wpAny_done (by kernel_rfl) ?_ _
              go_wp2_with fail
              have hil := insS_length x ys
              rw [hrl] at hil
              rw [hil] at hown6
              go_roundw
              case rel => exact ⟨HB.out.trans (hB6.mono HB.out.size), k + 1, by omega, by go_num, by rw [HST.out]; exact owns_mono hown6 HB.out.size⟩
              case measure => simp [intOf]; omega
            · go_simp
              refine hK _ _ ?_
              clear hK K
              have hO2 := owns_below hO1 ((Below.refl _ w1).alloc (Nat.le_refl _) (.cells #[.int .i64 x] 3)) (Nat.le_refl _)
              have hS2 := Src3.lit w1 x
              have hB2 : Below wr.heap.size wr (w1.alloc (.cells #[.int .i64 x] 3)) := hB1.alloc hB1.size _
              have hs2 : (w1.alloc (.cells #[.int .i64 x] 3)).heap.size = w1.heap.size + 1 := World.size_alloc _ _
              rw [hs1] at hS2
              generalize (w1.alloc (.cells #[.int .i64 x] 3)) = w2 at *
              refine wpAny_ready (rs := [4]) (by kernel_rfl) (by simp) (AllReady.cons rfl (fun K hK => ?_) AllReady.nil)
              rw [if_pos (by rfl)]
              refine wp_append3 _ _ rfl wr.heap.size _ _ [] (ys.take a) rfl hO2 rfl (HS1.out.below hB2) (by first | (simp; done) | (simp; omega)) (by omega) ?_
              intro v3 w3 hown3 hg3
              refine hK _ _ ?_
              clear hK K
              rw [List.nil_append] at hown3
              have hB3 : Below wr.heap.size wr w3 := (hB2).grown hg3 (hB2).size fun k e => by have e' : wr.heap.size = k := Option.some.inj e; omega
              have hS3 := hS2.grown hg3 (by intro e; have e' : wr.heap.size = wr.heap.size + 1 := Option.some.inj e; omega)
              refine wpAny_ready (rs := [7]) (by kernel_rfl) (by simp) (AllReady.cons rfl (fun K hK => ?_) AllReady.nil)
              rw [if_pos (by rfl)]
              refine wp_append3 _ _ rfl wr.heap.size _ _ (ys.take a) [x] rfl hown3 rfl hS3 (by first | (simp; done) | (simp; omega)) (hB3).size ?_
              intro v5 w5 hown5 hg5
              refine hK _ _ ?_
              clear hK K
              have hB5 : Below wr.heap.size wr w5 := (hB3).grown hg5 (hB3).size fun k e => ((hown3).lt k e).1
              refine wpAny_ready (rs := [11]) (by kernel_rfl) (by simp) (AllReady.cons rfl (fun K hK => ?_) AllReady.nil)
              rw [if_pos (by rfl)]
              refine wp_append3 _ _ rfl wr.heap.size _ _ (ys.take a ++ [x]) (ys.drop a) rfl hown5 rfl (HS2.out.below hB5) (by first | (simp; done) | (simp; omega)) hB5.size ?_
              intro v6 w6 hown6 hg6
              refine hK _ _ ?_
              clear hK K
              have hB6 : Below wr.heap.size wr w6 := hB5.grown hg6 hB5.size fun k e => (hown5.lt k e).1
              rw [← HIn.out] at hown6
              refine wpAny_ready (rs := [12]) (by kernel_rfl) (by simp) (AllReady.cons rfl (fun K hK => ?_) AllReady.nil)
              go_simp
              refine hK _ _ ?_
              clear hK K
              refine wpAny_done (by kernel_rfl) ?_ _
              go_wp2_with fail
              have hil := insS_length x ys
              rw [hrl] at hil
              rw [hil] at hown6
              go_roundw
              case rel => exact ⟨HB.out.trans (hB6.mono HB.out.size), k + 1, by omega, by go_num, by rw [HST.out]; exact owns_mono hown6 HB.out.size⟩
              case measure => simp [intOf]; omega
          · go_simp
            refine hK _ _ ?_
            clear hK K
            have hS1 : Src3 ((wr.alloc (.cells #[.int .i64 x] 3)).drew) (.slice (some ⟨wr.heap.size, 0, none⟩) 1 1) [x] := Src3.lit wr x
            have hB1 : Below wr.heap.size wr ((wr.alloc (.cells #[.int .i64 x] 3)).drew) := ((Below.refl _ wr).alloc (Nat.le_refl _) _).drew
            have hs1 : ((wr.alloc (.cells #[.int .i64 x] 3)).drew).heap.size = wr.heap.size + 1 := World.size_alloc _ _
            generalize ((wr.alloc (.cells #[.int .i64 x] 3)).drew) = w1 at *
            refine wpAny_ready (rs := [0]) (by kernel_rfl) (by simp) (AllReady.cons rfl (fun K hK => ?_) AllReady.nil)
            go_simp
            refine hK _ _ ?_
            clear hK K
            have hO2 := lit0_owns (w := w1) (B := wr.heap.size) hB1.size
            have hS2 := hS1.below ((Below.refl _ w1).alloc (Nat.le_refl _) (.cells #[] 3))
            have hB2 : Below wr.heap.size wr (w1.alloc (.cells #[] 3)) := hB1.alloc hB1.size _
            have hs2 : (w1.alloc (.cells #[] 3)).heap.size = w1.heap.size + 1 := World.size_alloc _ _
            rw [hs1] at hO2
            generalize (w1.alloc (.cells #[] 3)) = w2 at *
            refine wpAny_ready (rs := [4]) (by kernel_rfl) (by simp) (AllReady.cons rfl (fun K hK => ?_) AllReady.nil)
            rw [if_pos (by rfl)]
            refine wp_append3 _ _ rfl wr.heap.size _ _ [] (ys.take a) rfl hO2 rfl (HS1.out.below hB2) (by first | (simp; done) | (simp; omega)) (by omega) ?_
            intro v3 w3 hown3 hg3
            refine hK _ _ ?_
            clear hK K
            rw [List.nil_append] at hown3
            have hB3 : Below wr.heap.size wr w3 := (hB2).grown hg3 (hB2).size fun k e => by have e' : (wr.heap.size + 1) = k := Option.some.inj e; omega
            have hS3 := hS2.grown hg3 (by intro e; have e' : wr.heap.size + 1 = wr.heap.size := Option.some.inj e; omega)
            refine wpAny_ready (rs := [7]) (by kernel_rfl) (by simp) (AllReady.cons rfl (fun K hK => ?_) AllReady.nil)
            rw [if_pos (by rfl)]
            refine wp_append3 _ _ rfl wr.heap.size _ _ (ys.take a) [x] rfl hown3 rfl hS3 (by first | (simp; done) | (simp; omega)) (hB3).size ?_
            intro v5 w5 hown5 hg5
            refine hK _ _ ?_
            clear hK K
            have hB5 : Below wr.heap.size wr w5 := (hB3).grown hg5 (hB3).size fun k e => ((hown3).lt k e).1
            refine wpAny_ready (rs := [11]) (by kernel_rfl) (by simp) (AllReady.cons rfl (fun K hK => ?_) AllReady.nil)
            rw [if_pos (by rfl)]
            refine wp_append3 _ _ rfl wr.heap.size _ _ (ys.take a ++ [x]) (ys.drop a) rfl hown5 rfl (HS2.out.below hB5) (by first | (simp; done) | (simp; omega)) hB5.size ?_
            intro v6 w6 hown6 hg6
            refine hK _ _ ?_
            clear hK K
            have hB6 : Below wr.heap.size wr w6 := hB5.grown hg6 hB5.size fun k e => (hown5.lt k e).1
            rw [← HIn.out] at hown6
            refine wpAny_ready (rs := [12]) (by kernel_rfl) (by simp) (AllReady.cons rfl (fun K hK => ?_) AllReady.nil)
            go_simp
            refine hK _ _ ?_
            clear hK K
            refine wpAny_done (by kernel_rfl) ?_ _
            go_wp2_with fail
            have hil := insS_length x ys
            rw [hrl] at hil
            rw [hil] at hown6
            go_roundw
            case rel => exact ⟨HB.out.trans (hB6.mono HB.out.size), k + 1, by omega, by go_num, by rw [HST.out]; exact owns_mono hown6 HB.out.size⟩
            case measure => simp [intOf]; omega
      · have hgl := (HO.out.lt g rfl)
        have hcell : ∀ j, j < k → wr.cell? ⟨g, j, none⟩ = some (.int .i64 (ys.getD j 0)) := fun j hj => by
          rw [HO.out.cellAt j (by omega)]; simp [ints, show j < ys.length by omega]
        have HCe := Lib.hid hcell
        clear hcell hO hB
        go_wp2_with fail
        go_loop [6] (fun aa => ∃ a : Nat, a ≤ k ∧ aa = .int .i64 a ∧ ∀ j, j < a → ys.getD j 0 ≤ x) (fun aa => k - (intOf aa).toNat)
        case atStart => exact ⟨0, Nat.zero_le _, rfl, fun j hj => absurd hj (Nat.not_lt_zero _)⟩
        case round =>
          obtain ⟨a, ha, rfl, hle⟩ := hrel
          by_cases hak : a < k
          · have hca := HCe.out a hak
            by_cases hyx : ys.getD a 0 ≤ x
            · have HL : Hid (∀ j, j < a + 1 → ys.getD j 0 ≤ x) := Lib.hid fun j hj => by
                by_cases e : j = a
                · subst e; exact hyx
                · exact hle j (by omega)
              clear hle
              generalize ys.getD a 0 = ya at *
              go_wp2_with fail
              go_round
              case rel => exact ⟨a + 1, by omega, by go_num, HL.out⟩
              case measure => simp [intOf]; omega
            · have HIn : Hid (insS x ys = ys.take a ++ [x] ++ ys.drop a) := Lib.hid (insS_at x ys a (by omega) hle fun _ => by omega)
              clear hle
              generalize ys.getD a 0 = ya at *
              go_wp2_with fail
              have hac : a ≤ c := by omega
              have hak' : a ≤ k := by omega
              obtain ⟨p, hp⟩ : ∃ p, (if c = a then 0 else a) = p := ⟨_, rfl⟩
              have HS1 : Hid (Src3 wr (.slice (some ⟨g, 0, none⟩) a c) (ys.take a)) := Lib.hid (src_take HCe.out hrl hak')
              have HS2 : Hid (Src3 wr (.slice (some ⟨g, p, none⟩) (k - a) (c - a)) (ys.drop a)) := Lib.hid (src_drop HCe.out hrl hak' hkc hp)
              refine wp_region_any (by kernel_rfl) ?_
              change wpAny _ _ _ _ _ _ _ (World.drew _)
              refine wpAny_take (i := 1) (v := .slice (some ⟨g, 0, none⟩) k c) rfl (by kernel_rfl) (by kernel_rfl) (by kernel_rfl) (fun _ _ _ h => h) (Or.inl ⟨by rfl, ?_⟩) ?_
              · intro w'
                go_simp
              simp only [Act.put]
              refine wpAny_take (i := 2) (v := .int .i64 a) rfl (by kernel_rfl) (by kernel_rfl) (by kernel_rfl) (fun _ _ _ h => h) (Or.inl ⟨by rfl, ?_⟩) ?_
              · intro w'
                go_simp
              simp only [Act.put]
              refine wpAny_take (i := 3) (v := .slice (some ⟨g, 0, none⟩) a c) rfl (by kernel_rfl) (by kernel_rfl) (by kernel_rfl) (fun _ _ _ h => h) (Or.inl ⟨by rfl, ?_⟩) ?_
              · intro w'
                go_simp
              simp only [Act.put]
              refine wpAny_take (i := 5) (v := .int .i64 x) rfl (by kernel_rfl) (by kernel_rfl) (by kernel_rfl) (fun _ _ _ h => h) (Or.inl ⟨by rfl, ?_⟩) ?_
              · intro w'
                go_simp
              simp only [Act.put]
              refine wpAny_take (i := 8) (v := .slice (some ⟨g, 0, none⟩) k c) rfl (by kernel_rfl) (by kernel_rfl) (by kernel_rfl) (fun _ _ _ h => h) (Or.inl ⟨by rfl, ?_⟩) ?_
              · intro w'
                go_simp
              simp only [Act.put]
              refine wpAny_take (i := 9) (v := .int .i64 a) rfl (by kernel_rfl) (by kernel_rfl) (by kernel_rfl) (fun _ _ _ h => h) (Or.inl ⟨by rfl, ?_⟩) ?_
              · intro w'
                go_simp
              simp only [Act.put]
              refine wpAny_take (i := 10) (v := .slice (some ⟨g, p, none⟩) (k - a) (c - a)) rfl (by kernel_rfl) (by kernel_rfl) (by kernel_rfl) (fun _ _ _ h => h) (Or.inl ⟨by rfl, ?_⟩) ?_
              · intro w'
                go_simp
                rw [← hp]
                split <;> rfl
              simp only [Act.put]
              refine wpAny_ready (rs := [0, 6]) (by kernel_rfl) (by simp) (AllReady.cons rfl (fun K hK => ?_) (AllReady.cons rfl (fun K hK => ?_) AllReady.nil))
              · go_simp
                refine hK _ _ ?_
                clear hK K
                have hO1 : ((wr.alloc (.cells #[] 3)).drew).ownsRow wr.heap.size 3 1 (.slice (some ⟨wr.heap.size, 0, none⟩) 0 0) ([] : List Int).length (ints []) := lit0_owns (Nat.le_refl _)
                have hB1 : Below wr.heap.size wr ((wr.alloc (.cells #[] 3)).drew) := ((Below.refl _ wr).alloc (Nat.le_refl _) _).drew
                have hs1 : ((wr.alloc (.cells #[] 3)).drew).heap.size = wr.heap.size + 1 := World.size_alloc _ _
                generalize ((wr.alloc (.cells #[] 3)).drew) = w1 at *
                refine wpAny_ready (rs := [4, 6]) (by kernel_rfl) (by simp) (AllReady.cons rfl (fun K hK => ?_) (AllReady.cons rfl (fun K hK => ?_) AllReady.nil))
                · rw [if_pos (by rfl)]
                  refine wp_append3 _ _ rfl wr.heap.size _ _ [] (ys.take a) rfl hO1 rfl (HS1.out.below hB1) (by first | (simp; done) | (simp; omega)) (by omega) ?_
                  intro v3 w3 hown3 hg3
                  refine hK _ _ ?_
                  clear hK K
                  rw [List.nil_append] at hown3
                  have hB3 : Below wr.heap.size wr w3 := (hB1).grown hg3 (hB1).size fun k e => by have e' : wr.heap.size = k := Option.some.inj e; omega
                  refine wpAny_ready (rs := [6]) (by kernel_rfl) (by simp) (AllReady.cons rfl (fun K hK => ?_) AllReady.nil)
                  go_simp
                  refine hK _ _ ?_
                  clear hK K
                  have hO4 := owns_below hown3 ((Below.refl _ w3).alloc (Nat.le_refl _) (.cells #[.int .i64 x] 3)) (Nat.le_refl _)
                  have hS4 := Src3.lit w3 x
                  have hB4 : Below wr.heap.size wr (w3.alloc (.cells #[.int .i64 x] 3)) := hB3.alloc hB3.size _
                  generalize (w3.alloc (.cells #[.int .i64 x] 3)) = w4 at *
                  refine wpAny_ready (rs := [7]) (by kernel_rfl) (by simp) (AllReady.cons rfl (fun K hK => ?_) AllReady.nil)
                  rw [if_pos (by rfl)]
                  refine wp_append3 _ _ rfl wr.heap.size _ _ (ys.take a) [x] rfl hO4 rfl hS4 (by first | (simp; done) | (simp; omega)) (hB4).size ?_
                  intro v5 w5 hown5 hg5
                  refine hK _ _ ?_
                  clear hK K
                  have hB5 : Below wr.heap.size wr w5 := (hB4).grown hg5 (hB4).size fun k e => ((hO4).lt k e).1
                  refine wpAny_ready (rs := [11]) (by kernel_rfl) (by simp) (AllReady.cons rfl (fun K hK => ?_) AllReady.nil)
                  rw [if_pos (by rfl)]
                  refine wp_append3 _ _ rfl wr.heap.size _ _ (ys.take a ++ [x]) (ys.drop a) rfl hown5 rfl (HS2.out.below hB5) (by first | (simp; done) | (simp; omega)) hB5.size ?_
                  intro v6 w6 hown6 hg6
                  refine hK _ _ ?_
                  clear hK K
                  have hB6 : Below wr.heap.size wr w6 := hB5.grown hg6 hB5.size fun k e => (hown5.lt k e).1
                  rw [← HIn.out] at hown6
                  refine wpAny_ready (rs := [12]) (by kernel_rfl) (by simp) (AllReady.cons rfl (fun K hK => ?_) AllReady.nil)
                  go_simp
                  refine hK _ _ ?_
                  clear hK K
                  refine wpAny_done (by kernel_rfl) ?_ _
                  go_wp2_with fail
                  have hil := insS_length x ys
                  rw [hrl] at hil
                  rw [hil] at hown6
                  go_roundw
                  case rel => exact ⟨HB.out.trans (hB6.mono HB.out.size), k + 1, by omega, by go_num, by rw [HST.out]; exact owns_mono hown6 HB.out.size⟩
                  case measure => simp [intOf]; omega
                · go_simp
                  refine hK _ _ ?_
                  clear hK K
                  have hO2 := owns_below hO1 ((Below.refl _ w1).alloc (Nat.le_refl _) (.cells #[.int .i64 x] 3)) (Nat.le_refl _)
                  have hS2 := Src3.lit w1 x
                  have hB2 : Below wr.heap.size wr (w1.alloc (.cells #[.int .i64 x] 3)) := hB1.alloc hB1.size _
                  have hs2 : (w1.alloc (.cells #[.int .i64 x] 3)).heap.size = w1.heap.size + 1 := World.size_alloc _ _
                  rw [hs1] at hS2
                  generalize (w1.alloc (.cells #[.int .i64 x] 3)) = w2 at *
                  refine wpAny_ready (rs := [4]) (by kernel_rfl) (by simp) (AllReady.cons rfl (fun K hK => ?_) AllReady.nil)
                  rw [if_pos (by rfl)]
                  refine wp_append3 _ _ rfl wr.heap.size _ _ [] (ys.take a) rfl hO2 rfl (HS1.out.below hB2) (by first | (simp; done) | (simp; omega)) (by omega) ?_
                  intro v3 w3 hown3 hg3
                  refine hK _ _ ?_
                  clear hK K
                  rw [List.nil_append] at hown3
                  have hB3 : Below wr.heap.size wr w3 := (hB2).grown hg3 (hB2).size fun k e => by have e' : wr.heap.size = k := Option.some.inj e; omega
                  have hS3 := hS2.grown hg3 (by intro e; have e' : wr.heap.size = wr.heap.size + 1 := Option.some.inj e; omega)
                  refine wpAny_ready (rs := [7]) (by kernel_rfl) (by simp) (AllReady.cons rfl (fun K hK => ?_) AllReady.nil)
                  rw [if_pos (by rfl)]
                  refine wp_append3 _ _ rfl wr.heap.size _ _ (ys.take a) [x] rfl hown3 rfl hS3 (by first | (simp; done) | (simp; omega)) (hB3).size ?_
                  intro v5 w5 hown5 hg5
                  refine hK _ _ ?_
                  clear hK K
                  have hB5 : Below wr.heap.size wr w5 := (hB3).grown hg5 (hB3).size fun k e => ((hown3).lt k e).1
                  refine wpAny_ready (rs := [11]) (by kernel_rfl) (by simp) (AllReady.cons rfl (fun K hK => ?_) AllReady.nil)
                  rw [if_pos (by rfl)]
                  refine wp_append3 _ _ rfl wr.heap.size _ _ (ys.take a ++ [x]) (ys.drop a) rfl hown5 rfl (HS2.out.below hB5) (by first | (simp; done) | (simp; omega)) hB5.size ?_
                  intro v6 w6 hown6 hg6
                  refine hK _ _ ?_
                  clear hK K
                  have hB6 : Below wr.heap.size wr w6 := hB5.grown hg6 hB5.size fun k e => (hown5.lt k e).1
                  rw [← HIn.out] at hown6
                  refine wpAny_ready (rs := [12]) (by kernel_rfl) (by simp) (AllReady.cons rfl (fun K hK => ?_) AllReady.nil)
                  go_simp
                  refine hK _ _ ?_
                  clear hK K
                  refine wpAny_done (by kernel_rfl) ?_ _
                  go_wp2_with fail
                  have hil := insS_length x ys
                  rw [hrl] at hil
                  rw [hil] at hown6
                  go_roundw
                  case rel => exact ⟨HB.out.trans (hB6.mono HB.out.size), k + 1, by omega, by go_num, by rw [HST.out]; exact owns_mono hown6 HB.out.size⟩
                  case measure => simp [intOf]; omega
              · go_simp
                refine hK _ _ ?_
                clear hK K
                have hS1 : Src3 ((wr.alloc (.cells #[.int .i64 x] 3)).drew) (.slice (some ⟨wr.heap.size, 0, none⟩) 1 1) [x] := Src3.lit wr x
                have hB1 : Below wr.heap.size wr ((wr.alloc (.cells #[.int .i64 x] 3)).drew) := ((Below.refl _ wr).alloc (Nat.le_refl _) _).drew
                have hs1 : ((wr.alloc (.cells #[.int .i64 x] 3)).drew).heap.size = wr.heap.size + 1 := World.size_alloc _ _
                generalize ((wr.alloc (.cells #[.int .i64 x] 3)).drew) = w1 at *
                refine wpAny_ready (rs := [0]) (by kernel_rfl) (by simp) (AllReady.cons rfl (fun K hK => ?_) AllReady.nil)
                go_simp
                refine hK _ _ ?_
                clear hK K
                have hO2 := lit0_owns (w := w1) (B := wr.heap.size) hB1.size
                have hS2 := hS1.below ((Below.refl _ w1).alloc (Nat.le_refl _) (.cells #[] 3))
                have hB2 : Below wr.heap.size wr (w1.alloc (.cells #[] 3)) := hB1.alloc hB1.size _
                have hs2 : (w1.alloc (.cells #[] 3)).heap.size = w1.heap.size + 1 := World.size_alloc _ _
                rw [hs1] at hO2
                generalize (w1.alloc (.cells #[] 3)) = w2 at *
                refine wpAny_ready (rs := [4]) (by kernel_rfl) (by simp) (AllReady.cons rfl (fun K hK => ?_) AllReady.nil)
                rw [if_pos (by rfl)]
                refine wp_append3 _ _ rfl wr.heap.size _ _ [] (ys.take a) rfl hO2 rfl (HS1.out.below hB2) (by first | (simp; done) | (simp; omega)) (by omega) ?_
                intro v3 w3 hown3 hg3
                refine hK _ _ ?_
                clear hK K
                rw [List.nil_append] at hown3
                have hB3 : Below wr.heap.size wr w3 := (hB2).grown hg3 (hB2).size fun k e => by have e' : (wr.heap.size + 1) = k := Option.some.inj e; omega
                have hS3 := hS2.grown hg3 (by intro e; have e' : wr.heap.size + 1 = wr.heap.size := Option.some.inj e; omega)
                refine wpAny_ready (rs := [7]) (by kernel_rfl) (by simp) (AllReady.cons rfl (fun K hK => ?_) AllReady.nil)
                rw [if_pos (by rfl)]
                refine wp_append3 _ _ rfl wr.heap.size _ _ (ys.take a) [x] rfl hown3 rfl hS3 (by first | (simp; done) | (simp; omega)) (hB3).size ?_
                intro v5 w5 hown5 hg5
                refine hK _ _ ?_
                clear hK K
                have hB5 : Below wr.heap.size wr w5 := (hB3).grown hg5 (hB3).size fun k e => ((hown3).lt k e).1
                refine wpAny_ready (rs := [11]) (by kernel_rfl) (by simp) (AllReady.cons rfl (fun K hK => ?_) AllReady.nil)
                rw [if_pos (by rfl)]
                refine wp_append3 _ _ rfl wr.heap.size _ _ (ys.take a ++ [x]) (ys.drop a) rfl hown5 rfl (HS2.out.below hB5) (by first | (simp; done) | (simp; omega)) hB5.size ?_
                intro v6 w6 hown6 hg6
                refine hK _ _ ?_
                clear hK K
                have hB6 : Below wr.heap.size wr w6 := hB5.grown hg6 hB5.size fun k e => (hown5.lt k e).1
                rw [← HIn.out] at hown6
                refine wpAny_ready (rs := [12]) (by kernel_rfl) (by simp) (AllReady.cons rfl (fun K hK => ?_) AllReady.nil)
                go_simp
                refine hK _ _ ?_
                clear hK K
                refine wpAny_done (by kernel_rfl) ?_ _
                go_wp2_with fail
                have hil := insS_length x ys
                rw [hrl] at hil
                rw [hil] at hown6
                go_roundw
                case rel => exact ⟨HB.out.trans (hB6.mono HB.out.size), k + 1, by omega, by go_num, by rw [HST.out]; exact owns_mono hown6 HB.out.size⟩
                case measure => simp [intOf]; omega
          · obtain rfl : a = k := by omega
            have HIn : Hid (insS x ys = ys.take a ++ [x] ++ ys.drop a) := Lib.hid (insS_at x ys a (by omega) hle fun _ => by omega)
            clear hle
            go_wp2_with fail
            have hac : a ≤ c := by omega
            have hak' : a ≤ a := by omega
            obtain ⟨p, hp⟩ : ∃ p, (if c = a then 0 else a) = p := ⟨_, rfl⟩
            have HS1 : Hid (Src3 wr (.slice (some ⟨g, 0, none⟩) a c) (ys.take a)) := Lib.hid (src_take HCe.out hrl hak')
            have HS2 : Hid (Src3 wr (.slice (some ⟨g, p, none⟩) 0 (c - a)) (ys.drop a)) := Lib.hid (by have := src_drop HCe.out hrl hak' hkc hp; rwa [Nat.sub_self] at this)
            refine wp_region_any (by kernel_rfl) ?_
            change wpAny _ _ _ _ _ _ _ (World.drew _)
            refine wpAny_take (i := 1) (v := .slice (some ⟨g, 0, none⟩) a c) rfl (by kernel_rfl) (by kernel_rfl) (by kernel_rfl) (fun _ _ _ h => h) (Or.inl ⟨by rfl, ?_⟩) ?_
            · intro w'
              go_simp
            simp only [Act.put]
            refine wpAny_take (i := 2) (v := .int .i64 a) rfl (by kernel_rfl) (by kernel_rfl) (by kernel_rfl) (fun _ _ _ h => h) (Or.inl ⟨by rfl, ?_⟩) ?_
            · intro w'
              go_simp
            simp only [Act.put]
            refine wpAny_take (i := 3) (v := .slice (some ⟨g, 0, none⟩) a c) rfl (by kernel_rfl) (by kernel_rfl) (by kernel_rfl) (fun _ _ _ h => h) (Or.inl ⟨by rfl, ?_⟩) ?_
            · intro w'
              go_simp
            simp only [Act.put]
            refine wpAny_take (i := 5) (v := .int .i64 x) rfl (by kernel_rfl) (by kernel_rfl) (by kernel_rfl) (fun _ _ _ h => h) (Or.inl ⟨by rfl, ?_⟩) ?_
            · intro w'
              go_simp
            simp only [Act.put]
            refine wpAny_take (i := 8) (v := .slice (some ⟨g, 0, none⟩) a c) rfl (by kernel_rfl) (by kernel_rfl) (by kernel_rfl) (fun _ _ _ h => h) (Or.inl ⟨by rfl, ?_⟩) ?_
            · intro w'
              go_simp
            simp only [Act.put]
            refine wpAny_take (i := 9) (v := .int .i64 a) rfl (by kernel_rfl) (by kernel_rfl) (by kernel_rfl) (fun _ _ _ h => h) (Or.inl ⟨by rfl, ?_⟩) ?_
            · intro w'
              go_simp
            simp only [Act.put]
            refine wpAny_take (i := 10) (v := .slice (some ⟨g, p, none⟩) 0 (c - a)) rfl (by kernel_rfl) (by kernel_rfl) (by kernel_rfl) (fun _ _ _ h => h) (Or.inl ⟨by rfl, ?_⟩) ?_
            · intro w'
              go_simp
              rw [← hp]
              split <;> rfl
            simp only [Act.put]
            refine wpAny_ready (rs := [0, 6]) (by kernel_rfl) (by simp) (AllReady.cons rfl (fun K hK => ?_) (AllReady.cons rfl (fun K hK => ?_) AllReady.nil))
            · go_simp
              refine hK _ _ ?_
              clear hK K
              have hO1 : ((wr.alloc (.cells #[] 3)).drew).ownsRow wr.heap.size 3 1 (.slice (some ⟨wr.heap.size, 0, none⟩) 0 0) ([] : List Int).length (ints []) := lit0_owns (Nat.le_refl _)
              have hB1 : Below wr.heap.size wr ((wr.alloc (.cells #[] 3)).drew) := ((Below.refl _ wr).alloc (Nat.le_refl _) _).drew
              have hs1 : ((wr.alloc (.cells #[] 3)).drew).heap.size = wr.heap.size + 1 := World.size_alloc _ _
              generalize ((wr.alloc (.cells #[] 3)).drew) = w1 at *
              refine wpAny_ready (rs := [4, 6]) (by kernel_rfl) (by simp) (AllReady.cons rfl (fun K hK => ?_) (AllReady.cons rfl (fun K hK => ?_) AllReady.nil))
              · rw [if_pos (by rfl)]
                refine wp_append3 _ _ rfl wr.heap.size _ _ [] (ys.take a) rfl hO1 rfl (HS1.out.below hB1) (by first | (simp; done) | (simp; omega)) (by omega) ?_
                intro v3 w3 hown3 hg3
                refine hK _ _ ?_
                clear hK K
                rw [List.nil_append] at hown3
                have hB3 : Below wr.heap.size wr w3 := (hB1).grown hg3 (hB1).size fun k e => by have e' : wr.heap.size = k := Option.some.inj e; omega
                refine wpAny_ready (rs := [6]) (by kernel_rfl) (by simp) (AllReady.cons rfl (fun K hK => ?_) AllReady.nil)
                go_simp
                refine hK _ _ ?_
                clear hK K
                have hO4 := owns_below hown3 ((Below.refl _ w3).alloc (Nat.le_refl _) (.cells #[.int .i64 x] 3)) (Nat.le_refl _)
                have hS4 := Src3.lit w3 x
                have hB4 : Below wr.heap.size wr (w3.alloc (.cells #[.int .i64 x] 3)) := hB3.alloc hB3.size _
                generalize (w3.alloc (.cells #[.int .i64 x] 3)) = w4 at *
                refine wpAny_ready (rs := [7]) (by kernel_rfl) (by simp) (AllReady.cons rfl (fun K hK => ?_) AllReady.nil)
                rw [if_pos (by rfl)]
                refine wp_append3 _ _ rfl wr.heap.size _ _ (ys.take a) [x] rfl hO4 rfl hS4 (by first | (simp; done) | (simp; omega)) (hB4).size ?_
                intro v5 w5 hown5 hg5
                refine hK _ _ ?_
                clear hK K
                have hB5 : Below wr.heap.size wr w5 := (hB4).grown hg5 (hB4).size fun k e => ((hO4).lt k e).1
                refine wpAny_ready (rs := [11]) (by kernel_rfl) (by simp) (AllReady.cons rfl (fun K hK => ?_) AllReady.nil)
                rw [if_pos (by rfl)]
                refine wp_append3 _ _ rfl wr.heap.size _ _ (ys.take a ++ [x]) (ys.drop a) rfl hown5 rfl (HS2.out.below hB5) (by first | (simp; done) | (simp; omega)) hB5.size ?_
                intro v6 w6 hown6 hg6
                refine hK _ _ ?_
                clear hK K
                have hB6 : Below wr.heap.size wr w6 := hB5.grown hg6 hB5.size fun k e => (hown5.lt k e).1
                rw [← HIn.out] at hown6
                refine wpAny_ready (rs := [12]) (by kernel_rfl) (by simp) (AllReady.cons rfl (fun K hK => ?_) AllReady.nil)
                go_simp
                refine hK _ _ ?_
                clear hK K
                refine wpAny_done (by kernel_rfl) ?_ _
                go_wp2_with fail
                have hil := insS_length x ys
                rw [hrl] at hil
                rw [hil] at hown6
                go_roundw
                case rel => exact ⟨HB.out.trans (hB6.mono HB.out.size), a + 1, by omega, by go_num, by rw [HST.out]; exact owns_mono hown6 HB.out.size⟩
                case measure => simp [intOf]; omega
              · go_simp
                refine hK _ _ ?_
                clear hK K
                have hO2 := owns_below hO1 ((Below.refl _ w1).alloc (Nat.le_refl _) (.cells #[.int .i64 x] 3)) (Nat.le_refl _)
                have hS2 := Src3.lit w1 x
                have hB2 : Below wr.heap.size wr (w1.alloc (.cells #[.int .i64 x] 3)) := hB1.alloc hB1.size _
                have hs2 : (w1.alloc (.cells #[.int .i64 x] 3)).heap.size = w1.heap.size + 1 := World.size_alloc _ _
                rw [hs1] at hS2
                generalize (w1.alloc (.cells #[.int .i64 x] 3)) = w2 at *
                refine wpAny_ready (rs := [4]) (by kernel_rfl) (by simp) (AllReady.cons rfl (fun K hK => ?_) AllReady.nil)
                rw [if_pos (by rfl)]
                refine wp_append3 _ _ rfl wr.heap.size _ _ [] (ys.take a) rfl hO2 rfl (HS1.out.below hB2) (by first | (simp; done) | (simp; omega)) (by omega) ?_
                intro v3 w3 hown3 hg3
                refine hK _ _ ?_
                clear hK K
                rw [List.nil_append] at hown3
                have hB3 : Below wr.heap.size wr w3 := (hB2).grown hg3 (hB2).size fun k e => by have e' : wr.heap.size = k := Option.some.inj e; omega
                have hS3 := hS2.grown hg3 (by intro e; have e' : wr.heap.size = wr.heap.size + 1 := Option.some.inj e; omega)
                refine wpAny_ready (rs := [7]) (by kernel_rfl) (by simp) (AllReady.cons rfl (fun K hK => ?_) AllReady.nil)
                rw [if_pos (by rfl)]
                refine wp_append3 _ _ rfl wr.heap.size _ _ (ys.take a) [x] rfl hown3 rfl hS3 (by first | (simp; done) | (simp; omega)) (hB3).size ?_
                intro v5 w5 hown5 hg5
                refine hK _ _ ?_
                clear hK K
                have hB5 : Below wr.heap.size wr w5 := (hB3).grown hg5 (hB3).size fun k e => ((hown3).lt k e).1
                refine wpAny_ready (rs := [11]) (by kernel_rfl) (by simp) (AllReady.cons rfl (fun K hK => ?_) AllReady.nil)
                rw [if_pos (by rfl)]
                refine wp_append3 _ _ rfl wr.heap.size _ _ (ys.take a ++ [x]) (ys.drop a) rfl hown5 rfl (HS2.out.below hB5) (by first | (simp; done) | (simp; omega)) hB5.size ?_
                intro v6 w6 hown6 hg6
                refine hK _ _ ?_
                clear hK K
                have hB6 : Below wr.heap.size wr w6 := hB5.grown hg6 hB5.size fun k e => (hown5.lt k e).1
                rw [← HIn.out] at hown6
                refine wpAny_ready (rs := [12]) (by kernel_rfl) (by simp) (AllReady.cons rfl (fun K hK => ?_) AllReady.nil)
                go_simp
                refine hK _ _ ?_
                clear hK K
                refine wpAny_done (by kernel_rfl) ?_ _
                go_wp2_with fail
                have hil := insS_length x ys
                rw [hrl] at hil
                rw [hil] at hown6
                go_roundw
                case rel => exact ⟨HB.out.trans (hB6.mono HB.out.size), a + 1, by omega, by go_num, by rw [HST.out]; exact owns_mono hown6 HB.out.size⟩
                case measure => simp [intOf]; omega
            · go_simp
              refine hK _ _ ?_
              clear hK K
              have hS1 : Src3 ((wr.alloc (.cells #[.int .i64 x] 3)).drew) (.slice (some ⟨wr.heap.size, 0, none⟩) 1 1) [x] := Src3.lit wr x
              have hB1 : Below wr.heap.size wr ((wr.alloc (.cells #[.int .i64 x] 3)).drew) := ((Below.refl _ wr).alloc (Nat.le_refl _) _).drew
              have hs1 : ((wr.alloc (.cells #[.int .i64 x] 3)).drew).heap.size = wr.heap.size + 1 := World.size_alloc _ _
              generalize ((wr.alloc (.cells #[.int .i64 x] 3)).drew) = w1 at *
              refine wpAny_ready (rs := [0]) (by kernel_rfl) (by simp) (AllReady.cons rfl (fun K hK => ?_) AllReady.nil)
              go_simp
              refine hK _ _ ?_
              clear hK K
              have hO2 := lit0_owns (w := w1) (B := wr.heap.size) hB1.size
              have hS2 := hS1.below ((Below.refl _ w1).alloc (Nat.le_refl _) (.cells #[] 3))
              have hB2 : Below wr.heap.size wr (w1.alloc (.cells #[] 3)) := hB1.alloc hB1.size _
              have hs2 : (w1.alloc (.cells #[] 3)).heap.size = w1.heap.size + 1 := World.size_alloc _ _
              rw [hs1] at hO2
              generalize (w1.alloc (.cells #[] 3)) = w2 at *
              refine wpAny_ready (rs := [4]) (by kernel_rfl) (by simp) (AllReady.cons rfl (fun K hK => ?_) AllReady.nil)
              rw [if_pos (by rfl)]
              refine wp_append3 _ _ rfl wr.heap.size _ _ [] (ys.take a) rfl hO2 rfl (HS1.out.below hB2) (by first | (simp; done) | (simp; omega)) (by omega) ?_
              intro v3 w3 hown3 hg3
              refine hK _ _ ?_
              clear hK K
              rw [List.nil_append] at hown3
              have hB3 : Below wr.heap.size wr w3 := (hB2).grown hg3 (hB2).size fun k e => by have e' : (wr.heap.size + 1) = k := Option.some.inj e; omega
              have hS3 := hS2.grown hg3 (by intro e; have e' : wr.heap.size + 1 = wr.heap.size := Option.some.inj e; omega)
              refine wpAny_ready (rs := [7]) (by kernel_rfl) (by simp) (AllReady.cons rfl (fun K hK => ?_) AllReady.nil)
              rw [if_pos (by rfl)]
              refine wp_append3 _ _ rfl wr.heap.size _ _ (ys.take a) [x] rfl hown3 rfl hS3 (by first | (simp; done) | (simp; omega)) (hB3).size ?_
              intro v5 w5 hown5 hg5
              refine hK _ _ ?_
              clear hK K
              have hB5 : Below wr.heap.size wr w5 := (hB3).grown hg5 (hB3).size fun k e => ((hown3).lt k e).1
              refine wpAny_ready (rs := [11]) (by kernel_rfl) (by simp) (AllReady.cons rfl (fun K hK => ?_) AllReady.nil)
              rw [if_pos (by rfl)]
              refine wp_append3 _ _ rfl wr.heap.size _ _ (ys.take a ++ [x]) (ys.drop a) rfl hown5 rfl (HS2.out.below hB5) (by first | (simp; done) | (simp; omega)) hB5.size ?_
              intro v6 w6 hown6 hg6
              refine hK _ _ ?_
              clear hK K
              have hB6 : Below wr.heap.size wr w6 := hB5.grown hg6 hB5.size fun k e => (hown5.lt k e).1
              rw [← HIn.out] at hown6
              refine wpAny_ready (rs := [12]) (by kernel_rfl) (by simp) (AllReady.cons rfl (fun K hK => ?_) AllReady.nil)
              go_simp
              refine hK _ _ ?_
              clear hK K
              refine wpAny_done (by kernel_rfl) ?_ _
              go_wp2_with fail
              have hil := insS_length x ys
              rw [hrl] at hil
              rw [hil] at hown6
              go_roundw
              case rel => exact ⟨HB.out.trans (hB6.mono HB.out.size), a + 1, by omega, by go_num, by rw [HST.out]; exact owns_mono hown6 HB.out.size⟩
              case measure => simp [intOf]; omega
    · obtain rfl : k = xs.length := by omega
      rw [List.take_length] at hO hrl
      have HO := Lib.hid hO
      have HB := Lib.hid hB
      have hr64 := risL_I64 xs HI.out
      obtain ⟨ao', c', rfl⟩ := owns_form hO
      have HR : Hid (Ints wr (.slice ao' xs.length c') (risL xs)) := Lib.hid (Ints.of_owns hO (by omega) hr64)
      clear hO hB hr64 HO
      go_wp2_with fail
      go_ret
      exact ⟨_, rfl, HR.out, HB.out⟩
end Go.Proofs.YtellnklbkjajbaaDoor
