/- keepsDifferent, the reference's Sums -/
import Derived.Test.YtlalfjkenkmojaaBb
namespace Go.Proofs.Ytlalfjkenkmojaa
open Go.RowKit

set_option maxHeartbeats 4000000 in
set_option maxRecDepth 100000 in
theorem keepsDifferent_any (n x : Nat) (v : Value) (l : List Nat) (w : World) (hn : 2 ≤ n) (hn4 : n ≤ 40) (hl : ∀ y ∈ l, y < 40) (hx : x < 40) (hlen : l.length ≤ 40) (h : Nats w v l) :
    Calls Try.prog 72 #[.int .i64 n, v, .int .i64 x] w fun e w' => e = .returned (.bool (ruleOf (sumsB n) l x)) ∧ Below w.heap.size w w' := by
  unfold ruleOf
  have HCl := Lib.hid (clone1_any v (nats l) w h)
  rw [nats_length] at HCl
  obtain ⟨i0, hi, hz0, hz1, hz2⟩ := info_parts Try.info3
  obtain ⟨m, hm⟩ : ∃ m, m = l ++ [x] := ⟨_, rfl⟩
  have HBd : Hid (∀ y ∈ m, y < 40) := Lib.hid (by
    intro y hy
    rw [hm] at hy
    simp at hy
    rcases hy with hy | rfl
    · exact hl y hy
    · exact hx)
  have hml : m.length ≤ 41 := by rw [hm]; simp; omega
  have HMl : Hid (m.length = l.length + 1) := Lib.hid (by rw [hm]; simp)
  rw [← hm]
  have HMm := Lib.hid hm
  clear h hl hm
  go_enter Try.func72, Try.ntmps72
  go_wp2_with fail
  refine HCl.out.mono ?_
  rintro e w1 ⟨ao, c, rfl, hown, hb1⟩
  have HO := Lib.hid hown
  have HB1 := Lib.hid hb1
  clear hown hb1 HCl
  go_wp2_with (at_builtin; refine wpList_append_own _ rfl _ _ 22 rfl w.heap.size 3 i0 (.int .i64 0) 1 8 Try.underlying22 hi hz0 hz1 hz2 rfl (by decide) _ _ _ rfl (HO.out.alloc _) ⟨w1.heap.size, 0, none⟩ 1 1 [.int .i64 x] rfl rfl (newOne _ _ _) (oneInt _) (by unfold maxLen; omega) (by omega) (by have := HB1.out.size; simp; omega) ?_)
  intro v' w2 hown' hgrow _
  have HR := Lib.hid (nat_step HO.out HB1.out HB1.out.size hown' hgrow)
  have hnm : Nats w2 v' m := by
    rw [HMm.out]
    exact Nats.of_owns HR.out.1 (by simp; omega) (fun y hy => by have := HBd.out y (by rw [HMm.out]; exact hy); omega)
  have HBase := Lib.hid HR.out.2
  clear hown' hgrow HR HO HB1 hi hz0 hz1 hz2
  obtain ⟨ao', cap', rfl, h1, h2, hxx⟩ := hnm.open
  have HX := Lib.hid hxx
  clear hxx hnm
  go_wp2_with fail
  go_loopw [21] (fun i wr => ∃ (k : Nat) (bs : List Bool), k ≤ m.length ∧ i = .int .i64 k ∧ BB 72 wr w2.heap.size bs ∧ Met 40 bs (sumsP n m k) ∧ (sumsP n m k).Nodup ∧ Below w2.heap.size w2 wr) (fun i _ => m.length - (intOf i).toNat)
  case atStart => exact ⟨0, List.replicate 40 false, Nat.zero_le _, rfl, bb40 w2, Met.start 40, List.nodup_nil, (Below.refl _ _).alloc (Nat.le_refl _) _⟩
  case round =>
    obtain ⟨k, bs, hk, rfl, hB, hM, hN, hb⟩ := hrel
    have HBB := Lib.hid hB
    have HM := Lib.hid hM
    have HNd := Lib.hid hN
    have HB := Lib.hid hb
    clear hB hM hN hb
    by_cases hlt : k < m.length
    · obtain ⟨b, o, rfl, hck⟩ := HX.out k hlt
      have hck' := ck hck HB.out
      have hz := HBd.out _ (natD_mem hlt)
      have HBad := Lib.hid (fun j (hj : j ≤ k) => sumsB_bad (n := n) hlt hj)
      have HSu := Lib.hid (fun j => sumsQ_succ n m k j)
      have HQ0 : Hid (sumsQ n m k 0 = sumsP n m k) := Lib.hid (sumsQ_zero n m k)
      clear hck
      generalize m.getD k 0 = z at *
      go_wp2_with fail
      go_loopw [31] (fun i wr => ∃ (j : Nat) (bs : List Bool), j ≤ k + 1 ∧ i = .int .i64 j ∧ BB 72 wr w2.heap.size bs ∧ Met 40 bs (sumsQ n m k j) ∧ (sumsQ n m k j).Nodup ∧ Below w2.heap.size w2 wr) (fun i _ => k + 1 - (intOf i).toNat)
      case atStart => exact ⟨0, bs, Nat.zero_le _, rfl, HBB.out, by rw [HQ0.out]; exact HM.out, by rw [HQ0.out]; exact HNd.out, HB.out⟩
      case round =>
        clear HBB HM HNd HB hck'
        obtain ⟨j, bs, hj, rfl, hB, hM, hN, hb⟩ := hrel
        have HBB := Lib.hid hB
        have HM := Lib.hid hM
        have HNd := Lib.hid hN
        have HB := Lib.hid hb
        clear hB hM hN hb
        by_cases hjk : j < k + 1
        · obtain ⟨b', o', he, hcj⟩ := HX.out j (by omega)
          simp only [Option.some.injEq, Addr.mk.injEq] at he
          obtain ⟨rfl, rfl, _⟩ := he
          have hcj' := ck hcj HB.out
          have hy := HBd.out _ (natD_mem (show j < m.length by omega))
          have HBad1 := Lib.hid (HBad.out j (by omega))
          have HSu1 := Lib.hid (HSu.out j)
          clear hcj
          generalize m.getD j 0 = y at *
          have hs40 : (z + y) % n < 40 := Nat.lt_of_lt_of_le (Nat.mod_lt _ (by omega)) hn4
          have d3 : ((z:Int) + y).tmod n = (((z + y) % n : Nat) : Int) := by rw [← Int.natCast_add]; rfl
          have d4 : ((z:Int) + y) % n = (((z + y) % n : Nat) : Int) := by rw [← Int.natCast_add]; rfl
          have hmz : ((n:Int) == 0) = false := beq_eq_false_iff_ne.2 (by omega)
          have hmz1 : ¬ n = 0 := by omega
          have hmz2 : ¬ (n:Int) = 0 := by omega
          have hst := HM.out.step _ hs40
          have HM2 := Lib.hid hst
          have hmem := HM.out.2 _ hs40
          have HMem := Lib.hid hmem
          obtain ⟨hcb, hfb⟩ := HBB.out.cell (k := (z + y) % n) (by rw [HM.out.1]; exact hs40)
          have HSet := Lib.hid (fun s => HBB.out.set s true)
          clear hst hmem
          generalize (z + y) % n = s at *
          cases hh : bs.getD s false with
          | true =>
            have HF := Lib.hid (HBad1.out (of_decide_eq_true (by rw [← HMem.out, hh])))
            rw [hh] at hcb
            clear hh
            go_wp2
            go_ret
            exact ⟨ret_bool HF.out.symm, HBase.out.trans (HB.out.mono HBase.out.size)⟩
          | false =>
            have HND2 : Hid ((sumsQ n m k (j + 1)).Nodup) := Lib.hid (by
              rw [HSu1.out]
              exact nodup_snoc HNd.out (of_decide_eq_false (by rw [← HMem.out, hh])))
            rw [hh] at hcb
            clear hh
            go_wp2
            go_roundw
            case rel => exact ⟨j + 1, bs.set s true, by omega, by go_num, HSet.out s, by rw [HSu1.out]; exact HM2.out, HND2.out, HB.out.setCell (p := ⟨w2.heap.size, s, none⟩) (Nat.le_refl _) _⟩
            case measure => simp [intOf]; omega
        · obtain rfl : j = k + 1 := by omega
          have HE : Hid (sumsQ n m k (k + 1) = sumsP n m (k + 1)) := Lib.hid (sumsQ_end n m k)
          rw [HE.out] at HM HNd
          go_wp2
          go_roundw
          case rel => exact ⟨k + 1, bs, by omega, by go_num, HBB.out, HM.out, HNd.out, HB.out⟩
          case measure => simp [intOf]; omega
    · obtain rfl : k = m.length := by omega
      have HF : Hid (sumsB n m = true) := Lib.hid (decide_eq_true HNd.out)
      go_wp2
      go_ret
      exact ⟨ret_bool HF.out.symm, HBase.out.trans (HB.out.mono HBase.out.size)⟩

set_option maxHeartbeats 4000000 in
set_option maxRecDepth 100000 in
theorem rSums_any (n : Nat) (v : Value) (m : List Nat) (w : World) (hn : 2 ≤ n) (hn4 : n ≤ 40) (hl : ∀ y ∈ m, y < 40) (hml : m.length ≤ 41) (h : Nats w v m) :
    Calls Try.prog 43 #[.int .i64 n, v] w fun e w' => e = .returned (.bool (sumsB n m)) ∧ Below w.heap.size w w' := by
  have HBd := Lib.hid hl
  obtain ⟨ao', cap', rfl, h1, h2, hxx⟩ := h.open
  have HX := Lib.hid hxx
  clear hxx h hl
  go_enter Try.func43, Try.ntmps43
  go_wp2_with fail
  go_loopw [12] (fun i wr => ∃ (k : Nat) (bs : List Bool), k ≤ m.length ∧ i = .int .i64 k ∧ BB 72 wr w.heap.size bs ∧ Met 40 bs (sumsP n m k) ∧ (sumsP n m k).Nodup ∧ Below w.heap.size w wr) (fun i _ => m.length - (intOf i).toNat)
  case atStart => exact ⟨0, List.replicate 40 false, Nat.zero_le _, rfl, bb40 w, Met.start 40, List.nodup_nil, (Below.refl _ _).alloc (Nat.le_refl _) _⟩
  case round =>
    obtain ⟨k, bs, hk, rfl, hB, hM, hN, hb⟩ := hrel
    have HBB := Lib.hid hB
    have HM := Lib.hid hM
    have HNd := Lib.hid hN
    have HB := Lib.hid hb
    clear hB hM hN hb
    by_cases hlt : k < m.length
    · obtain ⟨b, o, rfl, hck⟩ := HX.out k hlt
      have hck' := ck hck HB.out
      have hz := HBd.out _ (natD_mem hlt)
      have HBad := Lib.hid (fun j (hj : j ≤ k) => sumsB_bad (n := n) hlt hj)
      have HSu := Lib.hid (fun j => sumsQ_succ n m k j)
      have HQ0 : Hid (sumsQ n m k 0 = sumsP n m k) := Lib.hid (sumsQ_zero n m k)
      clear hck
      generalize m.getD k 0 = z at *
      go_wp2_with fail
      go_loopw [22] (fun i wr => ∃ (j : Nat) (bs : List Bool), j ≤ k + 1 ∧ i = .int .i64 j ∧ BB 72 wr w.heap.size bs ∧ Met 40 bs (sumsQ n m k j) ∧ (sumsQ n m k j).Nodup ∧ Below w.heap.size w wr) (fun i _ => k + 1 - (intOf i).toNat)
      case atStart => exact ⟨0, bs, Nat.zero_le _, rfl, HBB.out, by rw [HQ0.out]; exact HM.out, by rw [HQ0.out]; exact HNd.out, HB.out⟩
      case round =>
        clear HBB HM HNd HB hck'
        obtain ⟨j, bs, hj, rfl, hB, hM, hN, hb⟩ := hrel
        have HBB := Lib.hid hB
        have HM := Lib.hid hM
        have HNd := Lib.hid hN
        have HB := Lib.hid hb
        clear hB hM hN hb
        by_cases hjk : j < k + 1
        · obtain ⟨b', o', he, hcj⟩ := HX.out j (by omega)
          simp only [Option.some.injEq, Addr.mk.injEq] at he
          obtain ⟨rfl, rfl, _⟩ := he
          have hcj' := ck hcj HB.out
          have hy := HBd.out _ (natD_mem (show j < m.length by omega))
          have HBad1 := Lib.hid (HBad.out j (by omega))
          have HSu1 := Lib.hid (HSu.out j)
          clear hcj
          generalize m.getD j 0 = y at *
          have hs40 : (z + y) % n < 40 := Nat.lt_of_lt_of_le (Nat.mod_lt _ (by omega)) hn4
          have d3 : ((z:Int) + y).tmod n = (((z + y) % n : Nat) : Int) := by rw [← Int.natCast_add]; rfl
          have d4 : ((z:Int) + y) % n = (((z + y) % n : Nat) : Int) := by rw [← Int.natCast_add]; rfl
          have hmz : ((n:Int) == 0) = false := beq_eq_false_iff_ne.2 (by omega)
          have hmz1 : ¬ n = 0 := by omega
          have hmz2 : ¬ (n:Int) = 0 := by omega
          have hst := HM.out.step _ hs40
          have HM2 := Lib.hid hst
          have hmem := HM.out.2 _ hs40
          have HMem := Lib.hid hmem
          obtain ⟨hcb, hfb⟩ := HBB.out.cell (k := (z + y) % n) (by rw [HM.out.1]; exact hs40)
          have HSet := Lib.hid (fun s => HBB.out.set s true)
          clear hst hmem
          generalize (z + y) % n = s at *
          cases hh : bs.getD s false with
          | true =>
            have HF := Lib.hid (HBad1.out (of_decide_eq_true (by rw [← HMem.out, hh])))
            rw [hh] at hcb
            clear hh
            go_wp2
            go_ret
            exact ⟨ret_bool HF.out.symm, HB.out⟩
          | false =>
            have HND2 : Hid ((sumsQ n m k (j + 1)).Nodup) := Lib.hid (by
              rw [HSu1.out]
              exact nodup_snoc HNd.out (of_decide_eq_false (by rw [← HMem.out, hh])))
            rw [hh] at hcb
            clear hh
            go_wp2
            go_roundw
            case rel => exact ⟨j + 1, bs.set s true, by omega, by go_num, HSet.out s, by rw [HSu1.out]; exact HM2.out, HND2.out, HB.out.setCell (p := ⟨w.heap.size, s, none⟩) (Nat.le_refl _) _⟩
            case measure => simp [intOf]; omega
        · obtain rfl : j = k + 1 := by omega
          have HE : Hid (sumsQ n m k (k + 1) = sumsP n m (k + 1)) := Lib.hid (sumsQ_end n m k)
          rw [HE.out] at HM HNd
          go_wp2
          go_roundw
          case rel => exact ⟨k + 1, bs, by omega, by go_num, HBB.out, HM.out, HNd.out, HB.out⟩
          case measure => simp [intOf]; omega
    · obtain rfl : k = m.length := by omega
      have HF : Hid (sumsB n m = true) := Lib.hid (decide_eq_true HNd.out)
      go_wp2
      go_ret
      exact ⟨ret_bool HF.out.symm, HB.out⟩
end Go.Proofs.Ytlalfjkenkmojaa
