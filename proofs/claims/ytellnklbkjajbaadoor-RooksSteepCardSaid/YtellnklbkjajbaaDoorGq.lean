/- Factor, and the reference's; stairs: what the reckoning says of any heights -/
import Derived.Test.YtellnklbkjajbaaDoorDf
import Derived.Test.YtellnklbkjajbaaDoorGf
import Derived.Test.YtellnklbkjajbaaDoorGl6a
import Derived.Test.YtellnklbkjajbaaDoorGl6b
import Derived.Test.YtellnklbkjajbaaDoorGl6c
import Derived.Test.YtellnklbkjajbaaDoorGl6d
namespace Go.Proofs.YtellnklbkjajbaaDoor
open Go.RowKit

/-- The value of Factor. -/
def facV (ls : List Nat) (n : Nat) (x : Int) : Int := fcK (rookL (stL ls)) n x (n + 1)

set_option maxRecDepth 100000 in
set_option maxHeartbeats 2000000 in
theorem Factor_any (v : Value) (ls : List Nat) (n : Nat) (x : Int) (w : World) (hs : Stp n ls) (h : Nats w v ls) (hT : Tab w) (hx0 : 0 ≤ x) (hx1 : x ≤ 10) :
    Calls Tryd.prog 37 #[v, .int .i64 x] w fun e w' => e = .returned (.tuple #[.int .i64 (facV ls n x), .int .i64 0]) ∧ Below w.heap.size w w' := by
  have hn := hs.le
  have HH := Lib.hid (areHeights_any v (nats ls) w h)
  rw [stepsB_mk hs] at HH
  have HS := Lib.hid (fun w' (hb : Below w.heap.size w w') => stair_any v ls n w' hs (h.below hb (Nat.le_refl _)))
  have HR := Lib.hid (fun v w' (hb : Nats w' v (stL ls)) (hT : Tab w') => rookNumbers_any v (stL ls) n w' (stL_brd hs) hb hT)
  have HBr := Lib.hid (stL_brd hs)
  have HTb := Lib.hid (fun w' (hb : Below w.heap.size w w') => tab_block hT (hb.block 1 (tab_lt hT)))
  have HRl : Hid ((rookL (stL ls)).length = n + 1) := Lib.hid (by rw [rookL_length, stL_length, hs.len])
  have HV : Hid (facV ls n x = fcK (rookL (stL ls)) n x (n + 1)) := rfl
  obtain ⟨ao, cap, rfl, h1, _, _⟩ := h.open
  rw [hs.len] at HH HS h1 ⊢
  clear h hs hT
  go_enter Tryd.func37, Tryd.ntmps37
  go_wp2_with fail
  refine HH.out.mono ?_
  rintro e w1 ⟨rfl, hb1⟩
  have HB1 := Lib.hid hb1
  clear hb1
  go_wp2_with fail
  refine (HS.out w1 HB1.out).mono ?_
  rintro e w2 ⟨rfl, hI, hb2⟩
  have HN := Lib.hid (hI.brd HBr.out)
  have HB2 := Lib.hid (HB1.out.trans (hb2.mono HB1.out.size))
  clear hI hb2
  go_wp2_with fail
  refine (HR.out _ w2 HN.out (HTb.out w2 HB2.out)).mono ?_
  rintro e w3 ⟨A, rfl, _, hI, hb3⟩
  have HI := Lib.hid hI
  have HB3 := Lib.hid (HB2.out.trans (hb3.mono HB2.out.size))
  clear hI hb3
  generalize rookL (stL ls) = rs at *
  go_wp2_with fail
  go_loop [6, 25] (fun s kk => ∃ k : Nat, k ≤ n + 1 ∧ kk = .int .i64 k ∧ s = .int .i64 (fcK rs n x k)) (fun _ kk => n + 1 - (intOf kk).toNat)
  case atStart => exact ⟨0, Nat.zero_le _, rfl, rfl⟩
  case round =>
    obtain ⟨k, hk, rfl, rfl⟩ := hrel
    by_cases hlt : k < n + 1
    · obtain ⟨hc, _⟩ := HI.out.cell (k := k) (by rw [HRl.out]; exact hlt)
      have HST : Hid (fcK rs n x (k + 1) = wrap64 (fcK rs n x k + ffK (rs.getD k 0) x (n - k))) := rfl
      have hnk : (n:Int) - (k:Int) = ((n - k : Nat) : Int) := by omega
      have hlti : (k:Int) < (n:Int) + 1 := by omega
      obtain ⟨m, hm⟩ : ∃ m, n - k = m := ⟨_, rfl⟩
      rw [hm] at HST hnk
      have hm6 : m ≤ 6 := by omega
      have hw : IntKind.i64.wrap ((n:Int) - (k:Int)) = (m:Int) := by rw [hnk]; exact i64_of (by omega) (by omega)
      clear hm hnk
      generalize rs.getD k 0 = y at *
      generalize fcK rs n x k = s at *
      go_wp2_with fail
      go_loop [8, 34] (fun p jj => ∃ j : Nat, j ≤ m ∧ jj = .int .i64 j ∧ p = .int .i64 (ffK y x j)) (fun _ jj => m - (intOf jj).toNat)
      case atStart => exact ⟨0, Nat.zero_le _, rfl, rfl⟩
      case round =>
        obtain ⟨j, hj, rfl, rfl⟩ := hrel
        by_cases hjm : j < m
        · have HJ : Hid (ffK y x (j + 1) = wrap64 (ffK y x j * (x - j))) := rfl
          generalize ffK y x j = p at *
          go_wp2_with fail
          go_round
          case rel => exact ⟨j + 1, by omega, by go_num, by rw [HJ.out]⟩
          case measure => simp [intOf]; omega
        · obtain rfl : j = m := by omega
          generalize ffK y x j = p at *
          go_wp2_with fail
          go_round
          case rel => exact ⟨k + 1, by omega, by go_num, by rw [HST.out]⟩
          case measure => simp [intOf]; omega
    · obtain rfl : k = n + 1 := by omega
      rw [← HV.out]
      go_wp2_with fail
      go_ret2
      exact ⟨rfl, HB3.out⟩
theorem Factor_bad (v : Value) (xs : List Int) (x : Int) (w : World) (h : Ints w v xs) (hb : stepsB xs = false ∨ x < 0 ∨ 10 < x) :
    Calls Tryd.prog 37 #[v, .int .i64 x] w fun e w' => e = .returned (.tuple #[.int .i64 0, .int .i64 2]) ∧ Below w.heap.size w w' := by
  have HH := Lib.hid (areHeights_any v xs w h)
  clear h
  cases hs : stepsB xs with
  | false =>
    rw [hs] at HH
    clear hs hb
    go_enter Tryd.func37, Tryd.ntmps37
    go_wp2_with fail
    refine HH.out.mono ?_
    rintro e w1 ⟨rfl, hb1⟩
    have HB1 := Lib.hid hb1
    clear hb1
    go_wp2_with fail
    go_ret2
    exact ⟨rfl, HB1.out⟩
  | true =>
    rw [hs] at HH hb
    rcases hb with hb | hb | hb
    · cases hb
    · clear hs
      go_enter Tryd.func37, Tryd.ntmps37
      go_wp2_with fail
      refine HH.out.mono ?_
      rintro e w1 ⟨rfl, hb1⟩
      have HB1 := Lib.hid hb1
      clear hb1
      go_wp2_with fail
      go_ret2
      exact ⟨rfl, HB1.out⟩
    · have h0 : ¬ x < 0 := by omega
      clear hs
      go_enter Tryd.func37, Tryd.ntmps37
      go_wp2_with fail
      refine HH.out.mono ?_
      rintro e w1 ⟨rfl, hb1⟩
      have HB1 := Lib.hid hb1
      clear hb1
      go_wp2_with fail
      go_ret2
      exact ⟨rfl, HB1.out⟩

set_option maxRecDepth 100000 in
set_option maxHeartbeats 2000000 in
theorem rFactor_any (v : Value) (ls : List Nat) (n : Nat) (x : Int) (w : World) (hs : Stp n ls) (h : Nats w v ls) (hx0 : 0 ≤ x) (hx1 : x ≤ 10) :
    Calls Tryd.prog 39 #[v, .int .i64 x] w fun e w' => e = .returned (.int .i64 (facV ls n x)) ∧ Below w.heap.size w w' := by
  have hn := hs.le
  have HS := Lib.hid (rStair_any v ls n w hs h)
  have HR := Lib.hid (fun v w' (hb : Nats w' v (stL ls)) => rRooks_any v (stL ls) n w' (stL_brd hs) hb)
  have HRl : Hid ((rookL (stL ls)).length = n + 1) := Lib.hid (by rw [rookL_length, stL_length, hs.len])
  have HV : Hid (facV ls n x = fcK (rookL (stL ls)) n x (n + 1)) := rfl
  obtain ⟨ao, cap, rfl, h1, _, _⟩ := h.open
  rw [hs.len] at HS h1 ⊢
  clear h hs
  go_enter Tryd.func39, Tryd.ntmps39
  go_wp2_with fail
  refine HS.out.mono ?_
  rintro e w2 ⟨v2, rfl, hI, hb2⟩
  have HN := Lib.hid hI
  have HB2 := Lib.hid hb2
  clear hI hb2
  go_wp2_with fail
  refine (HR.out _ w2 HN.out).mono ?_
  rintro e w3 ⟨A, rfl, _, hI, hb3⟩
  have HI := Lib.hid hI
  have HB3 := Lib.hid (HB2.out.trans (hb3.mono HB2.out.size))
  clear hI hb3
  generalize rookL (stL ls) = rs at *
  go_wp2_with fail
  go_loop [5, 13] (fun s kk => ∃ k : Nat, k ≤ n + 1 ∧ kk = .int .i64 k ∧ s = .int .i64 (fcK rs n x k)) (fun _ kk => n + 1 - (intOf kk).toNat)
  case atStart => exact ⟨0, Nat.zero_le _, rfl, rfl⟩
  case round =>
    obtain ⟨k, hk, rfl, rfl⟩ := hrel
    by_cases hlt : k < n + 1
    · obtain ⟨hc, _⟩ := HI.out.cell (k := k) (by rw [HRl.out]; exact hlt)
      have HST : Hid (fcK rs n x (k + 1) = wrap64 (fcK rs n x k + ffK (rs.getD k 0) x (n - k))) := rfl
      have hnk : (n:Int) - (k:Int) = ((n - k : Nat) : Int) := by omega
      have hlti : (k:Int) < (n:Int) + 1 := by omega
      obtain ⟨m, hm⟩ : ∃ m, n - k = m := ⟨_, rfl⟩
      rw [hm] at HST hnk
      have hm6 : m ≤ 6 := by omega
      have hw : IntKind.i64.wrap ((n:Int) - (k:Int)) = (m:Int) := by rw [hnk]; exact i64_of (by omega) (by omega)
      clear hm hnk
      generalize rs.getD k 0 = y at *
      generalize fcK rs n x k = s at *
      go_wp2_with fail
      go_loop [7, 22] (fun p jj => ∃ j : Nat, j ≤ m ∧ jj = .int .i64 j ∧ p = .int .i64 (ffK y x j)) (fun _ jj => m - (intOf jj).toNat)
      case atStart => exact ⟨0, Nat.zero_le _, rfl, rfl⟩
      case round =>
        obtain ⟨j, hj, rfl, rfl⟩ := hrel
        by_cases hjm : j < m
        · have HJ : Hid (ffK y x (j + 1) = wrap64 (ffK y x j * (x - j))) := rfl
          generalize ffK y x j = p at *
          go_wp2_with fail
          go_round
          case rel => exact ⟨j + 1, by omega, by go_num, by rw [HJ.out]⟩
          case measure => simp [intOf]; omega
        · obtain rfl : j = m := by omega
          generalize ffK y x j = p at *
          go_wp2_with fail
          go_round
          case rel => exact ⟨k + 1, by omega, by go_num, by rw [HST.out]⟩
          case measure => simp [intOf]; omega
    · obtain rfl : k = n + 1 := by omega
      rw [← HV.out]
      go_wp2_with fail
      go_ret
      exact ⟨rfl, HB3.out⟩
end Go.Proofs.YtellnklbkjajbaaDoor

namespace Go.Proofs.YtellnklbkjajbaaDoor
open Go.RowKit

set_option maxHeartbeats 1000000 in
theorem chk6 {l : List Nat} (h : l ∈ hts 6 6 0) : chkG 6 l = true := by
  rw [hts, List.mem_flatMap] at h
  obtain ⟨d, hd, h⟩ := h
  obtain ⟨l1, h1, rfl⟩ := List.mem_map.1 h
  rw [hts, List.mem_flatMap] at h1
  obtain ⟨e, he, h1⟩ := h1
  obtain ⟨l2, h2, rfl⟩ := List.mem_map.1 h1
  have hd := List.mem_range.1 hd
  have he := List.mem_range.1 he
  have use (d' e' : Nat) (hd' : d = d') (he' : e = e') (H : ((hts 6 4 (0 + d' + e')).map fun l => (0 + d') :: (0 + d' + e') :: l).all (chkG 6) = true) : chkG 6 ((0 + d) :: (0 + d + e) :: l2) = true := by
    subst hd' he'
    exact List.all_eq_true.1 H _ (List.mem_map.2 ⟨l2, h2, rfl⟩)
  have hc : d = 0 ∨ d = 1 ∨ d = 2 ∨ d = 3 ∨ d = 4 ∨ d = 5 ∨ d = 6 := by omega
  rcases hc with a | a | a | a | a | a | a
  · have hc : e = 0 ∨ e = 1 ∨ e = 2 ∨ e = 3 ∨ e = 4 ∨ e = 5 ∨ e = 6 := by omega
    rcases hc with b | b | b | b | b | b | b
    · exact use 0 0 a b chk6_00
    · exact use 0 1 a b chk6_01
    · exact use 0 2 a b chk6_02
    · exact use 0 3 a b chk6_03
    · exact use 0 4 a b chk6_04
    · exact use 0 5 a b chk6_05
    · exact use 0 6 a b chk6_06
  · have hc : e = 0 ∨ e = 1 ∨ e = 2 ∨ e = 3 ∨ e = 4 ∨ e = 5 := by omega
    rcases hc with b | b | b | b | b | b
    · exact use 1 0 a b chk6_10
    · exact use 1 1 a b chk6_11
    · exact use 1 2 a b chk6_12
    · exact use 1 3 a b chk6_13
    · exact use 1 4 a b chk6_14
    · exact use 1 5 a b chk6_15
  · have hc : e = 0 ∨ e = 1 ∨ e = 2 ∨ e = 3 ∨ e = 4 := by omega
    rcases hc with b | b | b | b | b
    · exact use 2 0 a b chk6_20
    · exact use 2 1 a b chk6_21
    · exact use 2 2 a b chk6_22
    · exact use 2 3 a b chk6_23
    · exact use 2 4 a b chk6_24
  · have hc : e = 0 ∨ e = 1 ∨ e = 2 ∨ e = 3 := by omega
    rcases hc with b | b | b | b
    · exact use 3 0 a b chk6_30
    · exact use 3 1 a b chk6_31
    · exact use 3 2 a b chk6_32
    · exact use 3 3 a b chk6_33
  · have hc : e = 0 ∨ e = 1 ∨ e = 2 := by omega
    rcases hc with b | b | b
    · exact use 4 0 a b chk6_40
    · exact use 4 1 a b chk6_41
    · exact use 4 2 a b chk6_42
  · have hc : e = 0 ∨ e = 1 := by omega
    rcases hc with b | b
    · exact use 5 0 a b chk6_50
    · exact use 5 1 a b chk6_51
  · exact use 6 0 a (by omega) chk6_60
theorem chkG_all {n : Nat} {ls : List Nat} (h : Stp n ls) : chkG n ls = true := by
  have hm := h.mem
  have h1 := h.pos
  have h6 := h.le
  have : n = 1 ∨ n = 2 ∨ n = 3 ∨ n = 4 ∨ n = 5 ∨ n = 6 := by omega
  rcases this with rfl | rfl | rfl | rfl | rfl | rfl
  · exact List.all_eq_true.1 chk1 ls hm
  · exact List.all_eq_true.1 chk2 ls hm
  · exact List.all_eq_true.1 chk3 ls hm
  · exact List.all_eq_true.1 chk4 ls hm
  · exact List.all_eq_true.1 chk5 ls hm
  · exact chk6 hm

/-- What was reckoned, in words. -/
structure FF (n : Nat) (ls : List Nat) : Prop where
  len : (steepV (dfL (nats ls))).length = n
  stp : ∀ i, i < n → (0 ≤ (steepV (dfL (nats ls))).getD i 0 ∧ (steepV (dfL (nats ls))).getD i 0 ≤ 20) ∧
    (0 < i → (steepV (dfL (nats ls))).getD (i - 1) 0 ≤ (steepV (dfL (nats ls))).getD i 0 ∧ ((steepV (dfL (nats ls))).getD i 0 ≤ 0 ∨ (steepV (dfL (nats ls))).getD (i - 1) 0 ≠ (steepV (dfL (nats ls))).getD i 0))
  prod : ∀ x : Nat, x ≤ 10 → fcK (nats (rkG n ls)) n x (n + 1) = pK (nats ls) x n ∧ pK (steepV (dfL (nats ls))) x n = pK (nats ls) x n
  inv : dfL (steepV (dfL (nats ls))) = dfL (nats ls)
  dec : decG 20 (-6) (nats (rkG n ls)) = dfL (nats ls)
  enc : encG (dfL (nats ls)) = nats (rkG n ls)
  ok : okB (stL ls) = true
  ht : htL (stL ls) = nats ls
  bd : ∀ r ∈ rkG n ls, r < 1000000
theorem ff_of {n : Nat} {ls : List Nat} (h : Stp n ls) : FF n ls := by
  have h := chkG_all h
  unfold chkG at h
  simp only [Bool.and_eq_true, decide_eq_true_eq] at h
  obtain ⟨⟨⟨⟨⟨⟨⟨⟨a, b⟩, c⟩, d⟩, e⟩, f⟩, g⟩, i⟩, j⟩ := h
  refine ⟨a, fun k hk => ?_, fun x hx => ?_, d, e, f, g, i, fun r hr => of_decide_eq_true (List.all_eq_true.1 j r hr)⟩
  · have := List.all_eq_true.1 b k (List.mem_range.2 hk)
    simp only [Bool.and_eq_true, Bool.or_eq_true, decide_eq_true_eq] at this
    obtain ⟨⟨h1, h2⟩, h3⟩ := this
    exact ⟨⟨h1, h2⟩, fun h0 => h3.resolve_left (by omega)⟩
  · have := List.all_eq_true.1 c x (List.mem_range.2 (by omega))
    simpa only [Bool.and_eq_true, decide_eq_true_eq] using this
theorem rook_gst {n : Nat} {ls : List Nat} (h : Stp n ls) : rookL (stL ls) = nats (rkG n ls) := by
  have hb := (ff_of h).bd
  have hl := h.len
  refine List.ext_getElem (by rw [rookL_length, stL_length, nats_length, hl]; simp [rkG]) fun k h1 h2 => ?_
  rw [rookL_length, stL_length, hl] at h1
  have g1 := rookL_get (stL ls) (m := k) (by rw [stL_length, hl]; omega)
  have hp : ls.Pairwise (· ≤ ·) := by
    refine List.pairwise_iff_getElem.2 fun i j hi hj hij => ?_
    have up : ∀ d, i + d < ls.length → ls.getD i 0 ≤ ls.getD (i + d) 0 := by
      intro d
      induction d with
      | zero => intro _; exact Nat.le_refl _
      | succ d ih =>
        intro hd
        have a := ih (by omega)
        have b := h.rise (i + (d + 1)) (by omega) (by omega)
        rw [show i + (d + 1) - 1 = i + d by omega] at b
        omega
    have := up (j - i) (by omega)
    rw [show i + (j - i) = j by omega] at this
    simpa [hi, hj] using this
  have hc : cnt (stL ls) 0 k = gst ls 0 k := by
    have := cnt_gst ls 0 k (fun r hr => ⟨by have := h.lt r hr; have := h.le; omega, fun j hj => by simp at hj⟩) hp
    rwa [show fl 0 = 0 from by decide] at this
  have hm : gst ls 0 k ∈ rkG n ls := List.mem_map.2 ⟨k, List.mem_range.2 (by omega), rfl⟩
  have hlt := hb _ hm
  rw [hc, wrap_in (by omega) (by omega)] at g1
  have e1 : (rookL (stL ls))[k] = (rookL (stL ls)).getD k 0 := by simp [show k < (rookL (stL ls)).length by rw [rookL_length, stL_length, hl]; omega]
  rw [e1, g1]
  simp [nats, rkG]
theorem nats_inj {a b : List Nat} (h : nats a = nats b) : a = b := by
  unfold nats at h
  exact (List.map_inj_right fun x y e => by exact_mod_cast e).1 h
theorem rooks_same {n : Nat} {ls ms : List Nat} (h : Stp n ls) (h' : Stp n ms) : eqB (rookL (stL ls)) (rookL (stL ms)) = eqB (dfL (nats ls)) (dfL (nats ms)) := by
  rw [rook_gst h, rook_gst h']
  refine decide_eq_decide.2 ⟨fun e => ?_, fun e => ?_⟩
  · rw [← (ff_of h).dec, ← (ff_of h').dec, e]
  · rw [← (ff_of h).enc, ← (ff_of h').enc, e]
theorem steeps_same {n : Nat} {ls ms : List Nat} (h : Stp n ls) (h' : Stp n ms) : eqB (steepV (dfL (nats ls))) (steepV (dfL (nats ms))) = eqB (dfL (nats ls)) (dfL (nats ms)) :=
  decide_eq_decide.2 ⟨fun e => by rw [← (ff_of h).inv, ← (ff_of h').inv, e], fun e => by rw [e]⟩
theorem facV_prod {n : Nat} {ls : List Nat} (h : Stp n ls) {x : Int} (h0 : 0 ≤ x) (h10 : x ≤ 10) : facV ls n x = pK (nats ls) x n ∧ pK (steepV (dfL (nats ls))) x n = pK (nats ls) x n := by
  obtain ⟨m, rfl⟩ : ∃ m : Nat, x = m := ⟨x.toNat, by omega⟩
  unfold facV
  rw [rook_gst h]
  exact (ff_of h).prod m (by omega)
end Go.Proofs.YtellnklbkjajbaaDoor
