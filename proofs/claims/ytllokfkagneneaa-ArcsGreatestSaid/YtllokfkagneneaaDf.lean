/- DeleteFunc with the tangents' closure -/
import Derived.Test.YtllokfkagneneaaDe
import Derived.Lib.SliceRun
namespace Go.Proofs.Ytllokfkagneneaa
open Go.RowKit

theorem below_setCells {B b : Nat} {a : World} (hb : B ≤ b) : ∀ (vs : List Value) (o : Nat) (w : World), Below B a w → Below B a (w.setCells b o vs)
  | [], _, _, h => h
  | v :: r, o, _, h => below_setCells hb r (o + 1) _ (h.setCell hb v)

/-- What is kept of a list. -/
def keptL (P : Int → Bool) (xs : List Int) : List Int := xs.filter fun x => !P x
theorem keptL_yes {P : Int → Bool} {xs : List Int} {k : Nat} (hk : k < xs.length) (h : P (xs.getD k 0) = true) : keptL P (xs.take (k+1)) = keptL P (xs.take k) := by
  rw [take_snoc xs k hk]; simp only [keptL, List.filter_append, List.filter_cons, List.filter_nil, h]; simp
theorem keptL_no {P : Int → Bool} {xs : List Int} {k : Nat} (hk : k < xs.length) (h : P (xs.getD k 0) = false) : keptL P (xs.take (k+1)) = keptL P (xs.take k) ++ [xs.getD k 0] := by
  rw [take_snoc xs k hk]; simp only [keptL, List.filter_append, List.filter_cons, List.filter_nil, h]; simp
theorem keptL_all {P : Int → Bool} {xs : List Int} {k : Nat} (hk : k ≤ xs.length) (h : ∀ j : Nat, j < k → P (xs.getD j 0) = false) : keptL P (xs.take k) = xs.take k := by
  induction k with
  | zero => simp [keptL]
  | succ k ih => rw [keptL_no (by omega) (h k (by omega)), ih (by omega) fun j hj => h j (by omega), take_snoc xs k (by omega)]
theorem keptL_le (P : Int → Bool) (xs : List Int) (k : Nat) : (keptL P (xs.take k)).length ≤ k := Nat.le_trans (List.length_filter_le _ _) (List.length_take_le k xs)

/-- The state behind j elements: what is kept stands in front, the elements from j on are as they were. -/
structure DelSt (P : Int → Bool) (xs : List Int) (B g cap : Nat) (w0 wr : World) (j : Nat) (ys : List Int) : Prop where
  own : wr.ownsRow B 3 1 (.slice (some ⟨g, 0, none⟩) xs.length cap) xs.length (ints ys)
  len : ys.length = xs.length
  front : ys.take (keptL P (xs.take j)).length = keptL P (xs.take j)
  less : (keptL P (xs.take j)).length < j
  rest : ∀ k : Nat, j ≤ k → k < xs.length → ys.getD k 0 = xs.getD k 0
  bel : Below B w0 wr

theorem take_set_succ (ys : List Int) (i : Nat) (x : Int) (h : i < ys.length) : (ys.set i x).take (i+1) = ys.take i ++ [x] := by
  rw [take_snoc _ _ (by simpa using h)]
  congr 1
  · rw [List.take_set_of_le (Nat.le_refl i)]
  · simp [h]

theorem DelSt.drop {P : Int → Bool} {xs ys : List Int} {B g cap : Nat} {w0 wr w1 : World} {j : Nat} (h : DelSt P xs B g cap w0 wr j ys) (hj : j < xs.length) (hP : P (xs.getD j 0) = true) (hb : Below wr.heap.size wr w1) (hB : B ≤ wr.heap.size) :
    DelSt P xs B g cap w0 w1 (j+1) ys :=
  ⟨owns_below h.own hb (Nat.le_refl _), h.len, by rw [keptL_yes hj hP]; exact h.front, by rw [keptL_yes hj hP]; have := h.less; omega, fun k hk hl => h.rest k (by omega) hl, h.bel.trans (hb.mono hB)⟩
theorem DelSt.keep {P : Int → Bool} {xs ys : List Int} {B g cap : Nat} {w0 wr w1 : World} {j : Nat} (h : DelSt P xs B g cap w0 wr j ys) (hj : j < xs.length) (hP : P (xs.getD j 0) = false) (hb : Below wr.heap.size wr w1) (hB : B ≤ wr.heap.size) (hg : B ≤ g) :
    DelSt P xs B g cap w0 (w1.setCell ⟨g, (keptL P (xs.take j)).length, none⟩ (.int .i64 (xs.getD j 0))) (j+1) (ys.set (keptL P (xs.take j)).length (xs.getD j 0)) := by
  have hl := h.less
  have h1 := owns_below h.own hb (Nat.le_refl _)
  have h2 := (World.ownsRow.stored h1 (keptL P (xs.take j)).length (.int .i64 (xs.getD j 0))).1
  have e : (keptL P (xs.take (j+1))).length = (keptL P (xs.take j)).length + 1 := by rw [keptL_no hj hP]; simp
  refine ⟨?_, by rw [List.length_set]; exact h.len, ?_, by rw [e]; omega, fun k hk hl' => ?_, (h.bel.trans (hb.mono hB)).setCell hg _⟩
  · rw [show ints (ys.set (keptL P (xs.take j)).length (xs.getD j 0)) = (ints ys).set (keptL P (xs.take j)).length (.int .i64 (xs.getD j 0)) by simp [ints, List.map_set]]
    exact h2
  · rw [e, take_set_succ _ _ _ (by rw [h.len]; omega), h.front, keptL_no hj hP]
  · have := h.rest k (by omega) hl'
    rw [← this]
    simp [List.getD, show (keptL P (xs.take j)).length ≠ k by omega]

theorem own_cell {w : World} {B g n cap : Nat} {ys : List Int} (h : w.ownsRow B 3 1 (.slice (some ⟨g, 0, none⟩) n cap) n (ints ys)) {k : Nat} (hk : k < n) :
    w.cell? ⟨g, k, none⟩ = some (.int .i64 (ys.getD k 0)) ∧ w.frozen? ⟨g, k, none⟩ = false ∧ n ≤ cap := by
  obtain ⟨h1, h2⟩ := h
  rw [ints_length] at h1
  rcases h2 with ⟨h, _⟩ | ⟨g', cap', cur, h, _, hh, hc, hm, hs, hx⟩
  · simp at h
  · simp only [Value.slice.injEq, Option.some.injEq, Addr.mk.injEq, and_true, true_and] at h
    obtain ⟨rfl, rfl⟩ := h
    have : (cur.toList.take (n * 1))[k]? = some (.int .i64 (ys.getD k 0)) := by rw [hx]; simp [ints, show k < ys.length by omega]
    rw [Nat.mul_one, List.getElem?_take_of_lt hk] at this
    refine ⟨?_, by simp [World.frozen?, hh], hc⟩
    simp only [World.cell?, hh]
    simpa using this

theorem kept_ints {P : Int → Bool} {xs ys : List Int} {B g cap : Nat} {w0 wr : World} (h : DelSt P xs B g cap w0 wr xs.length ys) (hi : ∀ x ∈ xs, I64 x) (hl : xs.length ≤ 1000) (vs : List Value) :
    Ints (wr.setCells g (keptL P xs).length vs) (.slice (some ⟨g, 0, none⟩) (keptL P xs).length cap) (keptL P xs) := by
  have hless := h.less
  have hfr := h.front
  rw [List.take_length] at hless hfr
  have hw : (wr.setCells g (keptL P xs).length vs).heap.size = wr.heap.size := by
    have : ∀ (vs : List Value) (o : Nat) (w : World), (w.setCells g o vs).heap.size = w.heap.size := by
      intro vs
      induction vs with
      | nil => intro o w; rfl
      | cons v r ih => intro o w; exact (ih _ _).trans (by simp [World.setCell])
    exact this vs _ wr
  obtain ⟨_, _, hnc⟩ := own_cell h.own (k := 0) (by omega)
  have hcm : cap ≤ maxLen := by
    rcases h.own.2 with ⟨h', _⟩ | ⟨g', cap', cur, h', _, _, _, hm, _⟩
    · simp at h'
    · simp only [Value.slice.injEq] at h'; rw [h'.2.2]; exact hm
  refine ⟨⟨some ⟨g, 0, none⟩, cap, by rw [ints_length], by rw [ints_length]; omega, by rw [ints_length]; omega, hcm, .inr ⟨g, 0, rfl, ?_, fun k x hx => ?_⟩⟩, fun x hx => hi x ((List.mem_filter.1 hx).1)⟩
  · rw [hw]; exact (h.own.lt g rfl).2
  · have hk := (List.getElem?_eq_some_iff.1 hx).1
    rw [ints_length] at hk
    rw [Nat.zero_add, World.cell?_setCells_out g vs _ wr ⟨g, k, none⟩ (fun _ _ => .inl hk), (own_cell h.own (k := k) (by omega)).1, ← hx]
    have e : (keptL P xs)[k]? = some (ys.getD k 0) := by
      rw [← hfr, List.getElem?_take_of_lt hk]
      simp [show k < ys.length by have := h.len; omega]
    simp only [ints, List.getElem?_map, e]
    rfl

theorem zero3 (w : World) : (zeroValue 3).run Try.prog w = .ok (.int .i64 0) w := by kernel_rfl

set_option maxHeartbeats 4000000 in
set_option maxRecDepth 100000 in
theorem deleteFunc_any (g8 g5 b q pt B : Nat) (v : Value) (xs : List Int) (w : World) (hc : ∀ w', Below B w w' → Cap83 w' g8 g5 b q pt) (hq : isPn q) (hpt : pt < np q) (ho : w.ownsRow B 3 1 v xs.length (ints xs)) (hB : B ≤ w.heap.size) (hin : InP q xs) (hi : ∀ x ∈ xs, I64 x) (hlen : xs.length ≤ 1000) :
    Calls Try.prog 84 #[v, .func (.func 83) #[] #[.pointer (some ⟨g8, 0, none⟩), .pointer (some ⟨g5, 0, none⟩)]] w fun e w' => ∃ v', e = .returned v' ∧ Ints w' v' (keptL (offB q pt) xs) ∧ Below B w w' := by
  have hInts := Ints.of_owns ho (by omega) hi
  have HIx := Lib.hid (indexFunc_any g8 g5 b q pt v xs w (hc w (Below.refl _ _)) hq hpt hInts hin)
  have HIn : Hid (∀ k : Nat, k < xs.length → 0 ≤ xs.getD k 0 ∧ xs.getD k 0 < (np q : Nat)) := hin
  have HCl := Lib.hid (fun (x : Nat) (hx : x < np q) (w' : World) (hb : Below B w w') => close83_any g8 g5 b q pt x w' (hc w' hb) hq hpt hx)
  have HI := Lib.hid hi
  have HO := Lib.hid ho
  have HV := Lib.hid hInts
  obtain ⟨ao, cap, rfl⟩ := owns_form ho
  clear ho hc hin hi hq hpt hInts
  go_enter Try.func84, Try.ntmps84
  go_wp2_with fail
  refine HIx.out.mono ?_
  intro e w1 hq
  obtain ⟨hq, hb1⟩ := hq
  have HB1 := Lib.hid (hb1.mono hB)
  have HV1 := Lib.hid (HV.out.below hb1 (Nat.le_refl _))
  have HO1 := Lib.hid (owns_below HO.out hb1 (Nat.le_refl _))
  clear hb1 HIx HV HO
  rcases hq with ⟨k, hk, hall, hP, rfl⟩ | ⟨hall, rfl⟩
  · obtain ⟨g, hgB, hao⟩ : ∃ g, B ≤ g ∧ ao = some ⟨g, 0, none⟩ := by
      rcases HO1.out.2 with ⟨h, h0⟩ | ⟨g, cap', cur, h, hg, _⟩
      · omega
      · simp only [Value.slice.injEq] at h; exact ⟨g, hg, h.1⟩
    subst hao
    have hsz1 : B ≤ w1.heap.size := Nat.le_trans hB HB1.out.size
    have h0 : DelSt (offB q pt) xs B g cap w w1 (k+1) xs := by
      have e1 : keptL (offB q pt) (xs.take (k+1)) = xs.take k := by rw [keptL_yes hk hP, keptL_all (by omega) hall]
      have e2 : (xs.take k).length = k := by rw [List.length_take]; omega
      exact ⟨HO1.out, rfl, by rw [e1, e2], by rw [e1, e2]; omega, fun _ _ _ => rfl, HB1.out⟩
    have e3 : (keptL (offB q pt) (xs.take (k+1))).length = k := by rw [keptL_yes hk hP, keptL_all (by omega) hall, List.length_take]; omega
    have hk1 : ((k:Int) == -1) = false := by simp
    have H0 := Lib.hid h0
    have E3 := Lib.hid e3
    clear h0 e3 hall hP HV1 HO1
    go_wp2_with fail
    go_loopw [5, 6] (fun i s6 wr => ∃ j ys, j ≤ xs.length ∧ s6 = .int .i64 (j : Nat) ∧ i = .int .i64 (keptL (offB q pt) (xs.take j)).length ∧ DelSt (offB q pt) xs B g cap w wr j ys) (fun _ s6 _ => xs.length - (intOf s6).toNat)
    case atStart => exact ⟨k + 1, xs, by omega, by go_num, by rw [E3.out], H0.out⟩
    case round =>
      obtain ⟨j, ys, hj, rfl, rfl, hst⟩ := hrel
      have HS := Lib.hid hst
      have hll := hst.less
      by_cases hlt : j < xs.length
      · obtain ⟨c1, _, hnc⟩ := own_cell hst.own hlt
        rw [hst.rest j (Nat.le_refl _) hlt] at c1
        obtain ⟨c2, f2, _⟩ := own_cell hst.own (k := (keptL (offB q pt) (xs.take j)).length) (by omega)
        obtain ⟨x, hx⟩ := Int.eq_ofNat_of_zero_le (HIn.out j hlt).1
        have hxq : x < np q := by have := (HIn.out j hlt).2; omega
        have HC := Lib.hid (HCl.out x hxq wr hst.bel)
        have hszr : B ≤ wr.heap.size := Nat.le_trans hB hst.bel.size
        cases hP : offB q pt (xs.getD j 0) with
        | true =>
          have HD := Lib.hid (fun w2 (hb : Below wr.heap.size wr w2) => HS.out.drop hlt hP hb hszr)
          have HK := Lib.hid (congrArg List.length (keptL_yes hlt hP))
          rw [hx] at c1 hP
          rw [hP] at HC
          clear hst hx hP f2 c2
          generalize (keptL (offB q pt) (xs.take j)).length = i at *
          go_wp2_with fail
          refine HC.out.mono ?_
          rintro e w2 ⟨rfl, hb2⟩
          have HD' := Lib.hid (HD.out w2 hb2)
          clear hb2
          go_wp2
          go_roundw
          case rel => exact ⟨j + 1, ys, by omega, by go_num, by rw [HK.out], HD'.out⟩
          case measure => simp [intOf]; omega
        | false =>
          have HD := Lib.hid (fun w2 (hb : Below wr.heap.size wr w2) => HS.out.keep hlt hP hb hszr hgB)
          have HK := Lib.hid (congrArg List.length (keptL_no hlt hP))
          rw [List.length_append] at HK
          rw [hx] at c1 hP HD HK
          rw [hP] at HC
          clear hst hx hP
          generalize (keptL (offB q pt) (xs.take j)).length = i at *
          go_wp2_with fail
          refine HC.out.mono ?_
          rintro e w2 ⟨rfl, hb2⟩
          have HD' := Lib.hid (HD.out w2 hb2)
          have c2' := ck c2 hb2
          have f2' : w2.frozen? ⟨g, i, none⟩ = false := (hb2.frozen (p := ⟨g, i, none⟩) (World.block_lt_of_cell? wr _ c2)).trans f2
          clear hb2
          go_wp2
          go_roundw
          case rel => exact ⟨j + 1, _, by omega, by go_num, by rw [HK.out]; go_num, HD'.out⟩
          case measure => simp [intOf]; omega
      · obtain rfl : j = xs.length := by omega
        have HKI := Lib.hid (kept_ints HS.out HI.out hlen (List.replicate (xs.length - (keptL (offB q pt) xs).length) (.int .i64 0)))
        rw [List.take_length] at *
        obtain ⟨c2, f2, hnc⟩ := own_cell hst.own (k := (keptL (offB q pt) xs).length) hll
        have hcl := Lib.run_clear_slice (P := Try.prog) wr 38 3 0 (.int .i64 0) Try.underlying38 zero3 rfl rfl g (keptL (offB q pt) xs).length (xs.length - (keptL (offB q pt) xs).length) (cap - (keptL (offB q pt) xs).length) (by omega)
          (fun m hm => by rw [(own_cell hst.own (k := (keptL (offB q pt) xs).length + m) (by omega)).1]; rfl) (fun m hm => (own_cell hst.own (k := (keptL (offB q pt) xs).length + m) (by omega)).2.1)
        have hci : ¬ cap = (keptL (offB q pt) xs).length := by omega
        have HBel := Lib.hid (below_setCells hgB (List.replicate (xs.length - (keptL (offB q pt) xs).length) (.int .i64 0)) (keptL (offB q pt) xs).length wr hst.bel)
        clear hst c2 f2
        generalize hkk : (keptL (offB q pt) xs).length = i at *
        clear hkk
        go_wp2
        go_ret
        exact ⟨_, rfl, HKI.out, HBel.out⟩
  · have HK : Hid (keptL (offB q pt) xs = xs) := by have := keptL_all (Nat.le_refl _) hall; rwa [List.take_length] at this
    clear hall
    go_wp2
    go_ret
    exact ⟨_, rfl, by rw [HK.out]; exact HV1.out, HB1.out⟩
end Go.Proofs.Ytllokfkagneneaa
