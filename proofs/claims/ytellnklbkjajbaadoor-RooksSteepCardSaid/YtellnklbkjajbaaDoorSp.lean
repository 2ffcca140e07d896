/- Steep -/
import Derived.Test.YtellnklbkjajbaaDoorSo
import Derived.Test.YtellnklbkjajbaaDoorDf
import Derived.Maps.AppendAt
namespace Go.Proofs.YtellnklbkjajbaaDoor
open Go.RowKit

/-- Of sorted differences: is the k-th one that of a height 0? -/
def spC (D : List Int) (k : Nat) : Bool := decide (D.getD k 0 ≤ 0) && (decide (k = 0) || decide (D.getD (k - 1) 0 < D.getD k 0))
def spZ (D : List Int) : Nat → Nat
  | 0 => 0
  | k + 1 => if spC D k then spZ D k + 1 else spZ D k
def spO (D : List Int) : Nat → List Int
  | 0 => []
  | k + 1 => if spC D k then spO D k else spO D k ++ [D.getD k 0]
def spF (O : List Int) (z : Nat) : Nat → List Int
  | 0 => List.replicate z 0
  | j + 1 => spF O z j ++ [O.getD j 0 + ((z + j : Nat) : Int)]
def steepV (D : List Int) : List Int := spF (spO D D.length) (spZ D D.length) (spO D D.length).length
theorem spZ_le (D : List Int) : ∀ k, spZ D k ≤ k
  | 0 => Nat.le_refl _
  | k + 1 => by have := spZ_le D k; rw [spZ]; split <;> omega
theorem spO_le (D : List Int) : ∀ k, (spO D k).length ≤ k
  | 0 => Nat.le_refl _
  | k + 1 => by have := spO_le D k; rw [spO]; split <;> simp <;> omega
theorem spF_length (O : List Int) (z : Nat) : ∀ j, (spF O z j).length = z + j
  | 0 => by simp [spF]
  | j + 1 => by rw [spF, List.length_append, spF_length O z j]; rfl
theorem spO_mem (D : List Int) : ∀ k, k ≤ D.length → ∀ y ∈ spO D k, y ∈ D
  | 0, _, y, h => by simp [spO] at h
  | k + 1, hk, y, h => by
    rw [spO] at h
    split at h
    · exact spO_mem D k (by omega) y h
    · rcases List.mem_append.1 h with h | h
      · exact spO_mem D k (by omega) y h
      · rw [List.mem_singleton] at h; subst h; exact getD_mem (by omega)
theorem spF_bd (O : List Int) (z : Nat) (hO : ∀ y ∈ O, -2000 ≤ y ∧ y ≤ 2000) (hz : z ≤ 20) : ∀ j, j ≤ O.length → j ≤ 20 → ∀ y ∈ spF O z j, -3000 ≤ y ∧ y ≤ 3000
  | 0, _, _, y, h => by have := List.eq_of_mem_replicate h; omega
  | j + 1, hj, hj2, y, h => by
    rw [spF, List.mem_append, List.mem_singleton] at h
    rcases h with h | rfl
    · exact spF_bd O z hO hz j (by omega) (by omega) y h
    · have := hO _ (getD_mem (show j < O.length by omega)); omega

theorem msort_risL (xs : List Int) : (xs.mergeSort fun x y => decide (x ≤ y)) = risL xs := by
  refine risL_unique (List.mergeSort_perm _ _) ?_
  have h := List.pairwise_mergeSort (le := fun x y : Int => decide (x ≤ y)) (fun a b c h1 h2 => by simp at *; omega) (fun a b => by simp; omega) xs
  exact h.imp fun h => by simpa using h

theorem own_of_iblk {w : World} {g B : Nat} {vs : List Int} (h : IBlk w g vs) (hB : B ≤ g) (hl : vs.length ≤ 1000) : w.ownsRow B 3 1 (.slice (some ⟨g, 0, none⟩) vs.length vs.length) vs.length (ints vs) :=
  ⟨by rw [ints_length, Nat.mul_one], .inr ⟨g, vs.length, _, rfl, hB, h, Nat.le_refl _, by unfold maxLen; omega, by simp [ints], by simp [ints, List.take_of_length_le]⟩⟩
def fillD (xs : List Int) (n k : Nat) : List Int := dif xs k ++ List.replicate (n - k) 0
theorem fillD_set (xs : List Int) {n k : Nat} (h : k < n) : (fillD xs n k).set k (xs.getD k 0 - k) = fillD xs n (k + 1) := by
  unfold fillD
  have hl := dif_length xs k
  rw [List.set_append_right _ _ (by omega), hl, Nat.sub_self, dif, List.append_assoc]
  obtain ⟨m, hm⟩ : ∃ m, n - k = m + 1 := ⟨n - k - 1, by omega⟩
  rw [hm, show n - (k + 1) = m by omega, List.replicate_succ, List.set_cons_zero]
  rfl
theorem fillD_length (xs : List Int) {n k : Nat} (h : k ≤ n) : (fillD xs n k).length = n := by
  unfold fillD
  rw [List.length_append, dif_length, List.length_replicate]; omega
theorem rep_snoc (z : Nat) : List.replicate z (0:Int) ++ [0] = List.replicate (z + 1) 0 := by rw [List.replicate_succ']

/-- The block of one slice is not that of another one. -/
def apart (v u : Value) : Prop := ∀ b, v.ownBlock = some b → u.ownBlock ≠ some b
theorem owns_apart {w w' : World} {B n : Nat} {u : Value} {xs : List Value} {row : Option Nat} (h : w.ownsRow B 3 1 u n xs) (hg : w.grownBy w' row) (hr : ∀ b, row = some b → u.ownBlock ≠ some b) : w'.ownsRow B 3 1 u n xs := by
  obtain ⟨h1, h2⟩ := h
  refine ⟨h1, ?_⟩
  rcases h2 with h2 | ⟨g, cap, cur, rfl, hg', hh, r⟩
  · exact .inl h2
  · exact .inr ⟨g, cap, cur, rfl, hg', (hg.block g (lt_of_block hh) fun e => hr g e.symm rfl).trans hh, r⟩

theorem append_two {w : World} {o : Oper} {ops : Array Oper} {rest : List Oper} {a : Act} {Q : Exit → Act → World → Prop} (s x : Operand) (hgd : o.guard = none)
    (ho : o.op = .call { callee := .builtin .append, args := #[s, x], argTypes := #[22, 22] }) (B : Nat) (v u : Value) (ny nz : Nat) (ys zs : List Int) (y : Int) (hs : a.eval s = v)
    (hv : w.ownsRow B 3 1 v ny (ints ys)) (hu : w.ownsRow B 3 1 u nz (ints zs)) (hap : apart v u) (hx : a.eval x = .slice (some ⟨w.heap.size, 0, none⟩) 1 1) (hl : ny ≤ 1000) (hB : B ≤ w.heap.size)
    (h : ∀ v' w', w'.ownsRow B 3 1 v' (ny + 1) (ints (ys ++ [y])) → w'.ownsRow B 3 1 u nz (ints zs) → apart v' u → Below B w w' → wpList Tryd.prog ops Q rest (a.put o.dst v') w') :
    wpList Tryd.prog ops Q (o :: rest) a (w.alloc (.cells #[.int .i64 y] 3)) := by
  obtain ⟨i0, hi, hz0, hz1, hz2⟩ := info_parts Tryd.info3
  have hw1 : Below w.heap.size w (w.alloc (.cells #[.int .i64 y] 3)) := (Below.refl _ _).alloc (Nat.le_refl _) _
  refine wpList_append_own_at _ hgd s x 22 ho B 3 i0 (.int .i64 0) 1 8 Tryd.underlying22 hi hz0 hz1 hz2 rfl (by decide) v ny (ints ys) hs (owns_below hv hw1 (Nat.le_refl _)) ⟨w.heap.size, 0, none⟩ 1 1 [.int .i64 y] hx rfl (newOne _ _ _) (oneInt _) (by unfold maxLen; omega) (by omega)
    (by rw [World.size_alloc]; omega) fun v' w' h2 h3 _ h5 => ?_
  have hu1 := owns_below hu hw1 (Nat.le_refl _)
  refine h v' w' (by simpa [ints] using h2) (owns_apart hu1 h3 hap) (fun b hb hb' => ?_) ?_
  · rcases h5 with h5 | h5
    · rw [h5] at hb; exact hap b hb hb'
    · rw [h5, World.size_alloc] at hb
      cases hb
      have := (hu.lt _ hb').2
      omega
  · exact ((Below.refl B w).alloc hB _).grown h3 (by rw [World.size_alloc]; omega) fun k hk => (hv.lt k hk).1

theorem Steep_bad (v : Value) (xs : List Int) (w : World) (hb : stepsB xs = false) (h : Ints w v xs) :
    Calls Tryd.prog 36 #[v] w fun e w' => e = .returned (.tuple #[.slice none 0 0, .int .i64 2]) ∧ Below w.heap.size w w' := by
  have HB := Lib.hid (areHeights_any v xs w h)
  rw [hb] at HB
  clear h
  go_enter Tryd.func36, Tryd.ntmps36
  go_wp2_with fail
  refine HB.out.mono ?_
  rintro e w1 ⟨rfl, hb1⟩
  have HB1 := Lib.hid hb1
  clear hb1
  go_wp2
  go_ret2
  exact ⟨rfl, HB1.out⟩
set_option maxRecDepth 100000 in
set_option maxHeartbeats 4000000 in
theorem Steep_any (v : Value) (ls : List Nat) (n : Nat) (w : World) (hs : Stp n ls) (h : Nats w v ls) :
    Calls Tryd.prog 36 #[v] w fun e w' => ∃ v', e = .returned (.tuple #[v', .int .i64 0]) ∧ Ints w' v' (steepV (dfL (nats ls))) ∧ Below w.heap.size w w' := by
  have hn := hs.le
  have hp1 := hs.pos
  have HH := Lib.hid (areHeights_any v (nats ls) w h)
  rw [stepsB_mk hs] at HH
  obtain ⟨ao, cap, rfl, h1, _, hx⟩ := h.cells
  rw [nats_length, hs.len] at h1 hx HH ⊢
  have HX := Lib.hid hx
  have hmk : ∀ W : World, (Instr.makeSlice 22 (.int .i64 (n:Int)) (.int .i64 (n:Int))).run Tryd.prog W = .ok (.slice (some ⟨W.heap.size, 0, none⟩) n n) (W.alloc (.cells (ints (List.replicate n 0)).toArray 3)) :=
    run_make22 n n (Nat.le_refl _) (by omega)
  have hb1000 : ∀ x ∈ nats ls, -1000 ≤ x ∧ x ≤ 1000 := fun x hx => by
    obtain ⟨r, hr, rfl⟩ := List.mem_map.1 hx
    have := hs.lt r hr
    omega
  have hll : (nats ls).length = n := by rw [nats_length, hs.len]
  have HL6 : Hid (∀ k, k < n → ls.getD k 0 ≤ 6) := Lib.hid fun k hk => by have := hs.lt _ (natD_mem (hs := ls) (k := k) (by rw [hs.len]; exact hk)); omega
  have HD : Hid (dfL (nats ls) = risL (dif (nats ls) n)) := Lib.hid (by unfold dfL; rw [hll])
  have HDl : Hid ((dfL (nats ls)).length = n) := Lib.hid (by unfold dfL; rw [risL_length, dif_length, hll])
  have HDb : Hid (∀ y ∈ dfL (nats ls), -1020 ≤ y ∧ y ≤ 1000) := Lib.hid fun y hy => by
    unfold dfL at hy
    exact dif_bd (nats ls) hb1000 (nats ls).length (Nat.le_refl _) (by omega) y ((risL_said _).1.mem_iff.1 hy)
  have HSo := Lib.hid (fun B w v ho hB => sort_said B v (dif (nats ls) n) w (by intro e; have := dif_length (nats ls) n; rw [e] at this; simp at this; omega) (by rw [dif_length]; omega) ho hB)
  rw [msort_risL, ← HD.out, dif_length] at HSo
  have HB0 := Lib.hid (Below.refl w.heap.size w)
  clear h hs hx hb1000 hll
  go_enter Tryd.func36, Tryd.ntmps36
  go_wp2_with fail
  refine HH.out.mono ?_
  rintro e w1 ⟨rfl, hb1⟩
  have HB1 := Lib.hid hb1
  clear hb1 HH
  go_wp2_with fail
  clear hmk
  have HZ0 : Hid (IBlk (w1.alloc (.cells (ints (List.replicate n 0)).toArray 3)) w1.heap.size (fillD (nats ls) n 0)) := Lib.hid (heap_alloc_new w1 _)
  have HM0 : Hid (Below w1.heap.size w1 (w1.alloc (.cells (ints (List.replicate n 0)).toArray 3))) := (Below.refl _ _).alloc (Nat.le_refl _) _
  go_loopw [21] (fun i wr => ∃ k : Nat, k ≤ n ∧ i = .int .i64 k ∧ IBlk wr w1.heap.size (fillD (nats ls) n k) ∧ Below w1.heap.size w1 wr) (fun i _ => n - (intOf i).toNat)
  case atStart => exact ⟨0, Nat.zero_le _, rfl, HZ0.out, HM0.out⟩
  case round =>
    clear HZ0 HM0
    obtain ⟨k, hk, rfl, hI, hb2⟩ := hrel
    have HI := Lib.hid hI
    have HB2 := Lib.hid hb2
    clear hI hb2
    by_cases hlt : k < n
    · obtain ⟨b, o, rfl, hck⟩ := HX.out wr (HB1.out.trans (HB2.out.mono HB1.out.size)) k hlt
      rw [nats_getD] at hck
      obtain ⟨hcz, hfz⟩ := HI.out.cell (k := k) (by rw [fillD_length _ hk]; exact hlt)
      have h6 := HL6.out k hlt
      have HS : Hid (IBlk (wr.setCell ⟨w1.heap.size, k, none⟩ (.int .i64 ((ls.getD k 0 : Nat) - (k : Int)))) w1.heap.size (fillD (nats ls) n (k + 1))) := Lib.hid (by
        rw [← fillD_set (nats ls) hlt, nats_getD]; exact HI.out.set k _)
      generalize (fillD (nats ls) n k).getD k 0 = old at *
      generalize ls.getD k 0 = r at *
      go_wp2_with fail
      go_roundw
      case rel => exact ⟨k + 1, by omega, by go_num, HS.out, HB2.out.setCell (Nat.le_refl _) _⟩
      case measure => simp [intOf]; omega
    · obtain rfl : k = n := by omega
      have hfd : fillD (nats ls) k k = dif (nats ls) k := by unfold fillD; simp
      rw [hfd] at HI
      have hown := own_of_iblk HI.out (B := w1.heap.size) (Nat.le_refl _) (by rw [dif_length]; omega)
      rw [dif_length] at hown
      have HC := Lib.hid (HSo.out w1.heap.size wr _ hown HB2.out.size)
      clear hown hfd HI HSo
      go_wp2_with fail
      refine HC.out.mono ?_
      rintro e w3 ⟨rfl, hO3, hb3⟩
      have hg3 := hO3.lt _ rfl
      have HDc : Hid (∀ j, j < k → w3.cell? ⟨w1.heap.size, j, none⟩ = some (.int .i64 ((dfL (nats ls)).getD j 0))) := Lib.hid fun j hj => by
        rw [hO3.cellAt j (by omega)]
        have : j < (dfL (nats ls)).length := by rw [HDl.out]; exact hj
        simp [ints, this]
      have HB3 := Lib.hid (HB1.out.trans ((HB2.out.trans hb3).mono HB1.out.size))
      clear hO3 hb3 HC HB2 HD
      have HRes : Hid (steepV (dfL (nats ls)) = spF (spO (dfL (nats ls)) k) (spZ (dfL (nats ls)) k) (spO (dfL (nats ls)) k).length) := Lib.hid (by unfold steepV; rw [HDl.out])
      have HOb : Hid (∀ j, j ≤ k → ∀ y ∈ spO (dfL (nats ls)) j, -1020 ≤ y ∧ y ≤ 1000) := Lib.hid fun j hj y hy => HDb.out y (spO_mem _ j (by rw [HDl.out]; exact hj) y hy)
      have HDk : Hid (∀ j, j < k → -1020 ≤ (dfL (nats ls)).getD j 0 ∧ (dfL (nats ls)).getD j 0 ≤ 1000) := Lib.hid fun j hj => HDb.out _ (getD_mem (by rw [HDl.out]; exact hj))
      generalize hDe : dfL (nats ls) = D at *
      have HDe := Lib.hid hDe
      clear hDe
      have HB30 := Lib.hid (Below.refl w3.heap.size w3)
      go_wp2_with fail
      go_loopw [7, 8, 37] (fun s o i wr => ∃ j : Nat, j ≤ k ∧ i = .int .i64 j ∧ wr.ownsRow w3.heap.size 3 1 s (spZ D j) (ints (List.replicate (spZ D j) 0)) ∧ wr.ownsRow w3.heap.size 3 1 o (spO D j).length (ints (spO D j)) ∧ apart s o ∧ apart o s ∧ Below w3.heap.size w3 wr) (fun _ _ i _ => k - (intOf i).toNat)
      case atStart => exact ⟨0, Nat.zero_le _, rfl, World.ownsRow_nil _ _ _ _, World.ownsRow_nil _ _ _ _, (fun b hb => by cases hb), (fun b hb => by cases hb), HB30.out⟩
      case round =>
        clear HB30
        obtain ⟨j, hj, rfl, hs, ho, ha, ha', hB⟩ := hrel
        have HS := Lib.hid hs
        have HO := Lib.hid ho
        have HA := Lib.hid ha
        have HA' := Lib.hid ha'
        have HB := Lib.hid hB
        obtain ⟨aoS, cS, rfl⟩ := owns_form hs
        obtain ⟨aoO, cO, rfl⟩ := owns_form ho
        clear hs ho ha ha' hB
        have hz := spZ_le D j
        have hol := spO_le D j
        by_cases hjk : j < k
        · have hcj := ck (HDc.out j hjk) HB.out
          have hdb := HDk.out j hjk
          have HZ1 : Hid (spZ D (j + 1) = if spC D j then spZ D j + 1 else spZ D j) := rfl
          have HO1 : Hid (spO D (j + 1) = if spC D j then spO D j else spO D j ++ [D.getD j 0]) := rfl
          have HCC : Hid (spC D j = (decide (D.getD j 0 ≤ 0) && (decide (j = 0) || decide (D.getD (j - 1) 0 < D.getD j 0)))) := rfl
          obtain ⟨x, hx⟩ : ∃ x, D.getD j 0 = x := ⟨_, rfl⟩
          by_cases c1 : D.getD j 0 ≤ 0
          · by_cases c0 : 0 < j
            · obtain ⟨m, rfl⟩ : ∃ m, j = m + 1 := ⟨j - 1, by omega⟩
              have hcm := ck (HDc.out m (by omega)) HB.out
              simp only [Nat.add_sub_cancel] at HCC
              have hne : (((m + 1 : Nat) : Int) == 0) = false := by simp; omega
              have hsub : ((m + 1 : Nat) : Int) - 1 = (m : Int) := by omega
              have hm0 : (0:Int) ≤ (m : Int) := by omega
              have hm1 : (m : Int) < (k : Int) := by omega
              have hlti : ((m + 1 : Nat) : Int) < (k : Int) := by omega
              by_cases c2 : D.getD m 0 < D.getD (m + 1) 0
              · have hC : spC D (m + 1) = true := by rw [HCC.out, decide_eq_true c1, decide_eq_true c2]; simp
                rw [hC, if_pos rfl] at HZ1 HO1
                rw [hx] at hcj c1 c2 hdb
                clear hC HCC hx c0
                generalize D.getD m 0 = x0 at *
                have hq := fun o ops rest a Q s x' hgd ho hs hx h => append_two (w := wr) (o := o) (ops := ops) (rest := rest) (a := a) (Q := Q) s x' hgd ho w3.heap.size _ _ _ _ (List.replicate (spZ D (m + 1)) 0) (spO D (m + 1)) 0 hs HS.out HO.out HA.out hx (by omega) HB.out.size h
                have HQ := Lib.hid hq
                clear hq
                go_wp2_with (at_builtin; refine HQ.out _ _ _ _ _ _ _ rfl rfl rfl rfl ?_)
                clear HQ
                intro v' w' h1 h2 h3 h4
                have HS2 := Lib.hid h1
                have HO2 := Lib.hid h2
                have HA2 := Lib.hid h3
                have HA2' : Hid (apart (.slice aoO (spO D (m + 1)).length cO) v') := Lib.hid fun b hb hb' => h3 b hb' hb
                have HB2 := Lib.hid (HB.out.trans h4)
                rw [rep_snoc] at HS2
                clear h1 h2 h3 h4
                go_wp2
                go_roundw
                case rel => exact ⟨(m + 1) + 1, by omega, by go_num, by rw [HZ1.out]; exact HS2.out, by rw [HO1.out]; simpa using HO2.out, HA2.out, HA2'.out, HB2.out⟩
                case measure => simp [intOf]; omega
              · have hC : spC D (m + 1) = false := by rw [HCC.out, decide_eq_false c2]; simp
                rw [hC, if_neg (by simp)] at HZ1 HO1
                rw [hx] at hcj c1 c2 hdb HO1
                clear hC HCC hx c0
                generalize D.getD m 0 = x0 at *
                have hq := fun o ops rest a Q s x' hgd ho hs hx h => append_two (w := wr) (o := o) (ops := ops) (rest := rest) (a := a) (Q := Q) s x' hgd ho w3.heap.size _ _ _ _ (spO D (m + 1)) (List.replicate (spZ D (m + 1)) 0) x hs HO.out HS.out HA'.out hx (by omega) HB.out.size h
                have HQ := Lib.hid hq
                clear hq
                go_wp2_with (at_builtin; refine HQ.out _ _ _ _ _ _ _ rfl rfl rfl rfl ?_)
                clear HQ
                intro v' w' h1 h2 h3 h4
                have HO2 := Lib.hid h1
                have HS2 := Lib.hid h2
                have HA2 : Hid (apart (.slice aoS (spZ D (m + 1)) cS) v') := Lib.hid fun b hb hb' => h3 b hb' hb
                have HA2' := Lib.hid h3
                have HB2 := Lib.hid (HB.out.trans h4)
                clear h1 h2 h3 h4
                go_wp2
                go_roundw
                case rel => exact ⟨(m + 1) + 1, by omega, by go_num, by rw [HZ1.out]; exact HS2.out, by rw [HO1.out]; simpa using HO2.out, HA2.out, HA2'.out, HB2.out⟩
                case measure => simp [intOf]; omega
            · obtain rfl : j = 0 := by omega
              rw [Nat.add_zero] at *
              have hC : spC D 0 = true := by rw [HCC.out, decide_eq_true c1]; simp
              rw [hC, if_pos rfl] at HZ1 HO1
              rw [hx] at hcj c1 hdb
              clear hC HCC hx c0
              have hq := fun o ops rest a Q s x' hgd ho hs hx h => append_two (w := wr) (o := o) (ops := ops) (rest := rest) (a := a) (Q := Q) s x' hgd ho w3.heap.size _ _ _ _ (List.replicate (spZ D 0) 0) (spO D 0) 0 hs HS.out HO.out HA.out hx (by omega) HB.out.size h
              have HQ := Lib.hid hq
              clear hq
              go_wp2_with (at_builtin; refine HQ.out _ _ _ _ _ _ _ rfl rfl rfl rfl ?_)
              clear HQ
              intro v' w' h1 h2 h3 h4
              have HS2 := Lib.hid h1
              have HO2 := Lib.hid h2
              have HA2 := Lib.hid h3
              have HA2' : Hid (apart (.slice aoO (spO D 0).length cO) v') := Lib.hid fun b hb hb' => h3 b hb' hb
              have HB2 := Lib.hid (HB.out.trans h4)
              rw [rep_snoc] at HS2
              clear h1 h2 h3 h4
              go_wp2
              go_roundw
              case rel => exact ⟨0 + 1, by omega, by go_num, by rw [HZ1.out]; exact HS2.out, by rw [HO1.out]; simpa using HO2.out, HA2.out, HA2'.out, HB2.out⟩
              case measure => simp [intOf]; omega
          · have hC : spC D j = false := by rw [HCC.out, decide_eq_false c1]; rfl
            rw [hC, if_neg (by simp)] at HZ1 HO1
            rw [hx] at hcj c1 hdb HO1
            clear hC HCC hx
            have hq := fun o ops rest a Q s x' hgd ho hs hx h => append_two (w := wr) (o := o) (ops := ops) (rest := rest) (a := a) (Q := Q) s x' hgd ho w3.heap.size _ _ _ _ (spO D j) (List.replicate (spZ D j) 0) x hs HO.out HS.out HA'.out hx (by omega) HB.out.size h
            have HQ := Lib.hid hq
            clear hq
            go_wp2_with (at_builtin; refine HQ.out _ _ _ _ _ _ _ rfl rfl rfl rfl ?_)
            clear HQ
            intro v' w' h1 h2 h3 h4
            have HO2 := Lib.hid h1
            have HS2 := Lib.hid h2
            have HA2 : Hid (apart (.slice aoS (spZ D j) cS) v') := Lib.hid fun b hb hb' => h3 b hb' hb
            have HA2' := Lib.hid h3
            have HB2 := Lib.hid (HB.out.trans h4)
            clear h1 h2 h3 h4
            go_wp2
            go_roundw
            case rel => exact ⟨j + 1, by omega, by go_num, by rw [HZ1.out]; exact HS2.out, by rw [HO1.out]; simpa using HO2.out, HA2.out, HA2'.out, HB2.out⟩
            case measure => simp [intOf]; omega
        · obtain rfl : j = k := by omega
          have hS0 := HS.out
          have HOk := Lib.hid (HOb.out j (Nat.le_refl _))
          have h0 : Hid (ints (List.replicate (spZ D j) (0:Int)) = ints (spF (spO D j) (spZ D j) 0)) := rfl
          rw [h0.out] at hS0
          have HS0 := Lib.hid hS0
          clear hS0 h0 HS HDk HDc HOb HL6 HX HA'
          obtain ⟨z, hze⟩ : ∃ z, spZ D j = z := ⟨_, rfl⟩
          obtain ⟨m, hm⟩ : ∃ m, (spO D j).length = m := ⟨_, rfl⟩
          have HML : Hid ((spO D j).length = m) := hm
          rw [hze] at hz HS0 HA HRes ⊢
          rw [hm] at hol HO HA HRes ⊢
          clear hze hm
          generalize spO D j = O at *
          have hcO : ∀ wq : World, wq.ownsRow w3.heap.size 3 1 (.slice aoO m cO) m (ints O) → ∀ i, i < m → ∃ b o, aoO = some ⟨b, o, none⟩ ∧ wq.cell? ⟨b, o + i, none⟩ = some (.int .i64 (O.getD i 0)) := fun wq hq i hi => by
            rcases owns_form' hq with ⟨e, e0⟩ | ⟨g, c, e, _⟩
            · exfalso
              simp only [Value.slice.injEq] at e
              omega
            · simp only [Value.slice.injEq, true_and] at e
              obtain ⟨rfl, rfl⟩ := e
              refine ⟨g, 0, rfl, ?_⟩
              rw [Nat.zero_add, hq.cellAt i (by omega)]
              have : i < O.length := by rw [HML.out]; exact hi
              simp [ints, this]
          have HcO := Lib.hid hcO
          have HOd : Hid (∀ i, i < m → -1020 ≤ O.getD i 0 ∧ O.getD i 0 ≤ 1000) := Lib.hid fun i hi => HOk.out _ (getD_mem (by rw [HML.out]; exact hi))
          clear hcO
          go_wp2_with fail
          go_loopw [7, 67] (fun s i wq => ∃ i' : Nat, i' ≤ m ∧ i = .int .i64 i' ∧ wq.ownsRow w3.heap.size 3 1 s (z + i') (ints (spF O z i')) ∧ wq.ownsRow w3.heap.size 3 1 (.slice aoO m cO) m (ints O) ∧ apart s (.slice aoO m cO) ∧ Below w3.heap.size w3 wq) (fun _ i _ => m - (intOf i).toNat)
          case atStart => exact ⟨0, Nat.zero_le _, rfl, HS0.out, HO.out, HA.out, HB.out⟩
          case round =>
            clear HS0 HO HA HB
            obtain ⟨i, hi, rfl, hs, ho, ha, hB⟩ := hrel
            have HS := Lib.hid hs
            have HO := Lib.hid ho
            have HA := Lib.hid ha
            have HB := Lib.hid hB
            obtain ⟨aoS', cS', rfl⟩ := owns_form hs
            clear hs ho ha hB
            by_cases him : i < m
            · obtain ⟨b, o, rfl, hci⟩ := HcO.out _ HO.out i him
              have hdb := HOd.out i him
              have HF : Hid (spF O z (i + 1) = spF O z i ++ [O.getD i 0 + ((z + i : Nat) : Int)]) := rfl
              generalize O.getD i 0 = x at *
              have hq := fun o' ops rest a Q s x' hgd ho hs hx h => append_two (o := o') (ops := ops) (rest := rest) (a := a) (Q := Q) s x' hgd ho w3.heap.size _ _ _ _ (spF O z i) O (x + ((z + i : Nat) : Int)) hs HS.out HO.out HA.out hx (by omega) HB.out.size h
              have HQ := Lib.hid hq
              clear hq
              go_wp2_with (at_builtin; refine HQ.out _ _ _ _ _ _ _ rfl rfl rfl rfl ?_)
              clear HQ
              intro v' w' h1 h2 h3 h4
              have HS2 := Lib.hid h1
              have HO2 := Lib.hid h2
              have HA2 := Lib.hid h3
              have HB2 := Lib.hid (HB.out.trans h4)
              clear h1 h2 h3 h4
              go_wp2
              go_roundw
              case rel => exact ⟨i + 1, by omega, by go_num, by rw [HF.out]; exact HS2.out, HO2.out, HA2.out, HB2.out⟩
              case measure => simp [intOf]; omega
            · obtain rfl : i = m := by omega
              have hbd := spF_bd O z (fun y hy => by have := HOk.out y hy; omega) (by omega) i (by rw [HML.out]; exact Nat.le_refl _) (by omega)
              have HV := Lib.hid (Ints.of_owns HS.out (by omega) fun y hy => by have := hbd y hy; unfold I64; omega)
              rw [← HRes.out] at HV
              clear hbd
              go_wp2_with fail
              go_ret2
              exact ⟨_, rfl, by rw [HDe.out]; exact HV.out, HB3.out.trans (HB.out.mono HB3.out.size)⟩
end Go.Proofs.YtellnklbkjajbaaDoor
