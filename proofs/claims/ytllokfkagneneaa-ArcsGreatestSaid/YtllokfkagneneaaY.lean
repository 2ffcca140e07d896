/- sets: the reference's most, Miss, Blocks -/
import Derived.Test.YtllokfkagneneaaX
import Derived.Test.YtllokfkagneneaaW
namespace Go.Proofs.Ytllokfkagneneaa
open Go.RowKit

/-- v reads as the table of the plane over q. -/
def Tab (w : World) (v : Value) (q : Nat) : Prop :=
  ∃ c cap, v = .slice (some ⟨c, 0, none⟩) (np q) cap ∧ np q ≤ cap ∧
    ∀ i, i < np q → ∃ d capd, w.cell? ⟨c, i, none⟩ = some (.slice (some ⟨d, 0, none⟩) (np q) capd) ∧ np q ≤ capd ∧ ∀ j, j < np q → w.cell? ⟨d, j, none⟩ = some (.bool (onB q i j))

theorem Tab.below {w w' : World} {v : Value} {q : Nat} (h : Tab w v q) (hb : Below w.heap.size w w') : Tab w' v q := by
  obtain ⟨c, cap, rfl, h1, h2⟩ := h
  refine ⟨c, cap, rfl, h1, fun i hi => ?_⟩
  obtain ⟨d, capd, h3, h4, h5⟩ := h2 i hi
  exact ⟨d, capd, ck h3 hb, h4, fun j hj => ck (h5 j hj) hb⟩

theorem np_pos (q : Nat) : 0 < np q := by unfold np; omega
theorem Tab.of_owns {w : World} {B q : Nat} {v : Value} {vs : List Value} (h : w.ownsRow B 99 1 v (np q) vs) (hr : OnRows w B q (np q) vs) : Tab w v q := by
  have hp := np_pos q
  obtain ⟨h1, h2⟩ := h
  rcases h2 with ⟨rfl, h0⟩ | ⟨g, cap, cur, rfl, _, hh, hc, hm, hs, hx⟩
  · omega
  · refine ⟨g, cap, rfl, hc, fun i hi => ?_⟩
    have hvl : i < vs.length := by rw [hr.1]; exact hi
    have hu := hr.2 i vs[i] (by simp [hvl])
    have hcell : w.cell? ⟨g, i, none⟩ = some vs[i] := by
      have : (cur.toList.take (np q * 1))[i]? = some vs[i] := by rw [hx]; simp [hvl]
      rw [Nat.mul_one, List.getElem?_take_of_lt hi] at this
      simp only [World.cell?, hh]
      simpa using this
    generalize vs[i] = u at *
    obtain ⟨k1, k2⟩ := hu
    rcases k2 with ⟨rfl, k0⟩ | ⟨d, capd, curd, rfl, _, hhd, hcd, hmd, hsd, hxd⟩
    · omega
    · refine ⟨d, capd, hcell, hcd, fun j hj => ?_⟩
      have : (curd.toList.take (np q * 1))[j]? = some (.bool (onB q i j)) := by rw [hxd]; simp [boolsV, onRow, hj]
      rw [Nat.mul_one, List.getElem?_take_of_lt hj] at this
      simp only [World.cell?, hhd]
      simpa using this

theorem table2_any (q : Nat) (w : World) (hq : isPn q) :
    Calls Try.prog 80 #[.int .i64 q] w fun e w' => ∃ v, e = .returned v ∧ Tab w' v q ∧ Below w.heap.size w w' :=
  (table_any q w hq).mono fun e w' h => by obtain ⟨v, vs, he, ho, hr, hb⟩ := h; exact ⟨v, he, Tab.of_owns ho hr, hb⟩

def mostK (q : Nat) (xs : List Int) (m : Nat) : Nat := (List.range m).foldl (fun n l => max n (cntL q xs l)) 0
theorem mostK_succ (q : Nat) (xs : List Int) (m : Nat) : mostK q xs (m+1) = max (mostK q xs m) (cntL q xs m) := by simp [mostK, List.range_succ]
theorem mostK_le (q : Nat) (xs : List Int) (m : Nat) : mostK q xs m ≤ xs.length := by
  induction m with
  | zero => simp [mostK]
  | succ m ih => rw [mostK_succ]; have := cntL_le q xs m; omega

set_option maxHeartbeats 4000000 in
set_option maxRecDepth 100000 in
theorem most_any (q : Nat) (t v : Value) (xs : List Int) (w : World) (ht : Tab w t q) (hq : isPn q) (h : Ints w v xs) (hin : InP q xs) :
    Calls Try.prog 79 #[t, v] w fun e w' => e = .returned (.int .i64 (mostK q xs (np q))) ∧ w = w' := by
  obtain ⟨c, cap, rfl, hcap, ht2⟩ := ht
  obtain ⟨ao, capx, rfl, h1, h2, hx⟩ := h.open
  have HT := Lib.hid ht2
  have HX := Lib.hid hx
  have HIn : Hid (∀ k : Nat, k < xs.length → 0 ≤ xs.getD k 0 ∧ xs.getD k 0 < (np q : Nat)) := hin
  have hn57 := np_le q hq.le.2
  clear h hx hin ht2 hq
  generalize np q = n at *
  go_enter Try.func79, Try.ntmps79
  go_wp2
  go_loop [5, 12] (fun s5 i => ∃ k : Nat, k ≤ n ∧ i = .int .i64 k ∧ s5 = .int .i64 (mostK q xs k)) (fun _ i => n - (intOf i).toNat)
  case atStart => exact ⟨0, Nat.zero_le _, rfl, rfl⟩
  case round =>
    obtain ⟨k, hk, rfl, rfl⟩ := hrel
    have hml := mostK_le q xs k
    by_cases hlt : k < n
    · have HS := Lib.hid (mostK_succ q xs k)
      generalize mostK q xs k = m at *
      go_wp2
      go_loop [7, 17] (fun s7 j => ∃ l : Nat, l ≤ xs.length ∧ j = .int .i64 l ∧ s7 = .int .i64 (cntL q (xs.take l) k)) (fun _ j => xs.length - (intOf j).toNat)
      case atStart => exact ⟨0, Nat.zero_le _, rfl, by rw [cntL_zero]; rfl⟩
      case round =>
        obtain ⟨l, hl, rfl, rfl⟩ := hrel
        have hcl := Nat.le_trans (cntL_le q (xs.take l) k) (List.length_take_le l xs)
        by_cases hltl : l < xs.length
        · obtain ⟨bx, ox, rfl, hck⟩ := HX.out l hltl
          obtain ⟨i, hi⟩ := Int.eq_ofNat_of_zero_le (HIn.out l hltl).1
          have hiq : i < n := by have := (HIn.out l hltl).2; omega
          obtain ⟨d, capd, hcd, hcapd, hcb⟩ := HT.out i hiq
          have hcb' := hcb k hlt
          have HY := Lib.hid (fun h => cntL_yes (q := q) (l := k) hltl h)
          have HN := Lib.hid (fun h => cntL_no (q := q) (l := k) hltl h)
          rw [hi] at hck HY HN
          rw [Int.toNat_natCast] at HY HN
          clear hi hcb
          generalize cntL q (xs.take l) k = cc at *
          cases ho : onB q i k with
          | true =>
            rw [ho] at hcb'
            have HY' := Lib.hid (HY.out ho)
            clear ho
            go_wp2
            go_round
            case rel => exact ⟨l + 1, by omega, by go_num, by rw [HY'.out]; go_num⟩
            case measure => simp [intOf]; omega
          | false =>
            rw [ho] at hcb'
            have HN' := Lib.hid (HN.out ho)
            clear ho
            go_wp2
            go_round
            case rel => exact ⟨l + 1, by omega, by go_num, by rw [HN'.out]⟩
            case measure => simp [intOf]; omega
        · obtain rfl : l = xs.length := by omega
          rw [List.take_length] at *
          generalize cntL q xs k = cc at *
          have hmx : max (m : Int) (cc : Int) = ((max m cc : Nat) : Int) := by omega
          go_wp2
          go_round
          case rel => exact ⟨k + 1, by omega, by go_num, by rw [HS.out]; go_num⟩
          case measure => simp [intOf]; omega
    · obtain rfl : k = n := by omega
      go_wp2
      go_ret
      exact ⟨rfl, rfl⟩

theorem cntL_pos_yes {q : Nat} {xs : List Int} {l k : Nat} (hk : k < xs.length) (h : onB q (xs.getD k 0).toNat l = true) : decide (0 < cntL q (xs.take (k+1)) l) = true := by
  rw [cntL_yes hk h]; simp
theorem cntL_pos_no {q : Nat} {xs : List Int} {l k : Nat} (hk : k < xs.length) (h : onB q (xs.getD k 0).toNat l = false) : decide (0 < cntL q (xs.take (k+1)) l) = decide (0 < cntL q (xs.take k) l) := by
  rw [cntL_no hk h]

set_option maxHeartbeats 4000000 in
set_option maxRecDepth 100000 in
theorem rMiss_any (q : Nat) (v : Value) (xs : List Int) (w : World) (hq : isPn q) (h : Ints w v xs) (hin : InP q xs) :
    Calls Try.prog 54 #[.int .i64 q, v] w fun e w' => ∃ v', e = .returned v' ∧ w'.ownsRow w.heap.size 3 1 v' (missS q xs).length (ints (missS q xs)) ∧ Below w.heap.size w w' := by
  have HTab := Lib.hid (table2_any q w hq)
  have HV : Hid (∀ w', Below w.heap.size w w' → Ints w' v xs) := fun w' hb => h.below hb (Nat.le_refl _)
  obtain ⟨i0, hi, hz0, hz1, hz2⟩ := info_parts Try.info3
  obtain ⟨ao, capx, rfl, h1, h2, hx⟩ := h.open
  have HIn : Hid (∀ k : Nat, k < xs.length → 0 ≤ xs.getD k 0 ∧ xs.getD k 0 < (np q : Nat)) := hin
  have hn57 := np_le q hq.le.2
  have HMS : Hid (missS q xs = linesW q 0 xs (np q)) := rfl
  clear h hx hin hq
  go_enter Try.func54, Try.ntmps54
  go_wp2_with fail
  refine HTab.out.mono ?_
  rintro e w1 ⟨t, rfl, ht, hb1⟩
  have hV := HV.out w1 hb1
  obtain ⟨ao', cap', hv, _, _, hx⟩ := hV.open
  simp only [Value.slice.injEq] at hv
  obtain ⟨rfl, _, rfl⟩ := hv
  obtain ⟨c, cap, rfl, hcap, ht2⟩ := ht
  have HT := Lib.hid ht2
  have HX := Lib.hid hx
  have HB1 := Lib.hid hb1
  have hszw := hb1.size
  clear hb1 ht2 hx HTab HV hV
  generalize np q = n at *
  go_wp2_with fail
  go_loopw [5, 15] (fun s5 i wr => ∃ k : Nat, k ≤ n ∧ i = .int .i64 k ∧ wr.ownsRow w1.heap.size 3 1 s5 (linesW q 0 xs k).length (ints (linesW q 0 xs k)) ∧ Below w1.heap.size w1 wr) (fun _ i _ => n - (intOf i).toNat)
  case atStart => exact ⟨0, Nat.zero_le _, rfl, World.ownsRow_nil _ _ _ _, Below.refl _ _⟩
  case round =>
    obtain ⟨k, hk, rfl, ho, hb⟩ := hrel
    have HO := Lib.hid ho
    have HB := Lib.hid hb
    have hll := linesW_le q 0 xs k
    clear ho hb
    by_cases hlt : k < n
    · have HY := Lib.hid (fun h => linesW_yes (q := q) (n := 0) (xs := xs) (k := k) h)
      have HN := Lib.hid (fun h => linesW_no (q := q) (n := 0) (xs := xs) (k := k) h)
      generalize linesW q 0 xs k = ls at *
      go_wp2_with fail
      go_loop [8, 20] (fun s8 j => ∃ l : Nat, l ≤ xs.length ∧ j = .int .i64 l ∧ s8 = .bool (decide (0 < cntL q (xs.take l) k))) (fun _ j => xs.length - (intOf j).toNat)
      case atStart => exact ⟨0, Nat.zero_le _, rfl, by rw [cntL_zero]; rfl⟩
      case round =>
        obtain ⟨l, hl, rfl, rfl⟩ := hrel
        by_cases hltl : l < xs.length
        · obtain ⟨bx, ox, rfl, hck⟩ := HX.out l hltl
          obtain ⟨i, hi'⟩ := Int.eq_ofNat_of_zero_le (HIn.out l hltl).1
          have hiq : i < n := by have := (HIn.out l hltl).2; omega
          obtain ⟨d, capd, hcd, hcapd, hcb⟩ := HT.out i hiq
          have hck2 := ck hck HB.out
          have hcd2 := ck hcd HB.out
          have hcb2 := ck (hcb k hlt) HB.out
          have HPy := Lib.hid (fun h => cntL_pos_yes (q := q) (l := k) hltl h)
          have HPn := Lib.hid (fun h => cntL_pos_no (q := q) (l := k) hltl h)
          rw [hi'] at hck2 HPy HPn
          rw [Int.toNat_natCast] at HPy HPn
          clear hi' hcb hck hcd
          generalize decide (0 < cntL q (xs.take l) k) = bb at *
          cases ho : onB q i k with
          | true =>
            rw [ho] at hcb2
            have HY' := Lib.hid (HPy.out ho)
            clear ho
            cases bb with
            | true =>
              go_wp2
              go_round
              case rel => exact ⟨l + 1, by omega, by go_num, by rw [HY'.out]⟩
              case measure => simp [intOf]; omega
            | false =>
              go_wp2
              go_round
              case rel => exact ⟨l + 1, by omega, by go_num, by rw [HY'.out]⟩
              case measure => simp [intOf]; omega
          | false =>
            rw [ho] at hcb2
            have HN' := Lib.hid (HPn.out ho)
            clear ho
            cases bb with
            | true =>
              go_wp2
              go_round
              case rel => exact ⟨l + 1, by omega, by go_num, by rw [HN'.out]⟩
              case measure => simp [intOf]; omega
            | false =>
              go_wp2
              go_round
              case rel => exact ⟨l + 1, by omega, by go_num, by rw [HN'.out]⟩
              case measure => simp [intOf]; omega
        · obtain rfl : l = xs.length := by omega
          rw [List.take_length] at *
          by_cases hc0 : 0 < cntL q xs k
          · have HN' := Lib.hid (HN.out (by omega))
            rw [decide_eq_true hc0]
            clear hc0
            go_wp2
            go_roundw
            case rel => exact ⟨k + 1, by omega, by go_num, by rw [HN'.out]; exact HO.out, HB.out⟩
            case measure => simp [intOf]; omega
          · have HY' := Lib.hid (HY.out (by omega))
            rw [decide_eq_false hc0]
            clear hc0
            go_wp2_with (at_builtin; refine wpList_append_own _ rfl _ _ 38 rfl w1.heap.size 3 i0 (.int .i64 0) 1 8 Try.underlying38 hi hz0 hz1 hz2 rfl (by decide) _ _ _ rfl (HO.out.alloc _) ⟨_, 0, none⟩ 1 1 [.int .i64 k] rfl rfl (newOne _ _ _) (oneInt _) (by unfold maxLen; omega) (by omega) (by have := HB.out.size; simp; omega) ?_)
            intro v' w2 hown' hgrow _
            have HR := Lib.hid (int_step HO.out HB.out HB.out.size hown' hgrow)
            clear hown' hgrow
            go_wp2
            go_roundw
            case rel => exact ⟨k + 1, by omega, by go_num, by rw [HY'.out]; exact HR.out.1, HR.out.2⟩
            case measure => simp [intOf]; omega
    · obtain rfl : k = n := by omega
      rw [← HMS.out] at HO
      go_wp2
      go_ret
      exact ⟨_, rfl, owns_mono HO.out hszw, HB1.out.trans (HB.out.mono HB1.out.size)⟩
end Go.Proofs.Ytllokfkagneneaa
