/- keepsFree, the reference's Apart -/
import Derived.Test.YtlalfjkenkmojaaBb
namespace Go.Proofs.Ytlalfjkenkmojaa
open Go.RowKit

theorem apartB_bad {n : Nat} {l : List Nat} {i j : Nat} (hi : i < l.length) (hj : j < l.length) (h : (l.getD i 0 + l.getD j 0) % n ∈ l) : apartB n l = false := by
  cases hh : apartB n l with
  | false => rfl
  | true => exact absurd h ((apartB_iff n l).1 hh _ (at_mem hi) _ (at_mem hj))
theorem apartB_good {n : Nat} {l : List Nat} (h : ∀ i j, i < l.length → j < l.length → (l.getD i 0 + l.getD j 0) % n ∉ l) : apartB n l = true := by
  rw [apartB_iff]
  intro a ha b hb
  obtain ⟨i, hi, rfl⟩ := mem_at ha
  obtain ⟨j, hj, rfl⟩ := mem_at hb
  exact h i j hi hj
theorem Met.keep {n : Nat} {bs : List Bool} {L L' : List Nat} (h : Met n bs L) (e : ∀ s, s ∈ L ↔ s ∈ L') : Met n bs L' := ⟨h.1, fun s hs => by rw [h.2 s hs]; simp only [e s]⟩

set_option maxHeartbeats 4000000 in
set_option maxRecDepth 100000 in
theorem keepsFree_any (n x : Nat) (v : Value) (l : List Nat) (w : World) (hn : 2 ≤ n) (hn4 : n ≤ 40) (hl : ∀ y ∈ l, y < 40) (hx : x < 40) (hlen : l.length ≤ 40) (h : Nats w v l) :
    Calls Try.prog 73 #[.int .i64 n, v, .int .i64 x] w fun e w' => e = .returned (.bool (ruleOf (apartB n) l x)) ∧ Below w.heap.size w w' := by
  unfold ruleOf
  have HCl := Lib.hid (clone1_any v (nats l) w h)
  rw [nats_length] at HCl
  obtain ⟨i0, hi, hz0, hz1, hz2⟩ := info_parts Try.info3
  obtain ⟨m, hm⟩ : ∃ m, m = l ++ [x] := ⟨_, rfl⟩
  have HBd : Hid (∀ y ∈ m, y < 40) := Lib.hid (by
    intro y hy
    rw [hm] at hy
    simp at hy
    rcases hy with hy | rfl
    · exact hl y hy
    · exact hx)
  have hml : m.length ≤ 41 := by rw [hm]; simp; omega
  have HMl : Hid (m.length = l.length + 1) := Lib.hid (by rw [hm]; simp)
  rw [← hm]
  have HMm := Lib.hid hm
  clear h hl hm
  go_enter Try.func73, Try.ntmps73
  go_wp2_with fail
  refine HCl.out.mono ?_
  rintro e w1 ⟨ao, c, rfl, hown, hb1⟩
  have HO := Lib.hid hown
  have HB1 := Lib.hid hb1
  clear hown hb1 HCl
  go_wp2_with (at_builtin; refine wpList_append_own _ rfl _ _ 22 rfl w.heap.size 3 i0 (.int .i64 0) 1 8 Try.underlying22 hi hz0 hz1 hz2 rfl (by decide) _ _ _ rfl (HO.out.alloc _) ⟨w1.heap.size, 0, none⟩ 1 1 [.int .i64 x] rfl rfl (newOne _ _ _) (oneInt _) (by unfold maxLen; omega) (by omega) (by have := HB1.out.size; simp; omega) ?_)
  intro v' w2 hown' hgrow _
  have HR := Lib.hid (nat_step HO.out HB1.out HB1.out.size hown' hgrow)
  have hnm : Nats w2 v' m := by
    rw [HMm.out]
    exact Nats.of_owns HR.out.1 (by simp; omega) (fun y hy => by have := HBd.out y (by rw [HMm.out]; exact hy); omega)
  have HBase := Lib.hid HR.out.2
  clear hown' hgrow HR HO HB1 hi hz0 hz1 hz2 HMm
  obtain ⟨ao', cap', rfl, h1, h2, hxx⟩ := hnm.open
  have HX := Lib.hid hxx
  clear hxx hnm
  go_wp2_with fail
  go_loopw [22] (fun i wr => ∃ (k : Nat) (bs : List Bool), k ≤ m.length ∧ i = .int .i64 k ∧ BB 72 wr w2.heap.size bs ∧ Met 40 bs (m.take k) ∧ Below w2.heap.size w2 wr) (fun i _ => m.length - (intOf i).toNat)
  case atStart => exact ⟨0, List.replicate 40 false, Nat.zero_le _, rfl, bb40 w2, Met.start 40, (Below.refl _ _).alloc (Nat.le_refl _) _⟩
  case round =>
    obtain ⟨k, bs, hk, rfl, hB, hM, hb⟩ := hrel
    have HBB := Lib.hid hB
    have HM := Lib.hid hM
    have HB := Lib.hid hb
    clear hB hM hb
    by_cases hlt : k < m.length
    · obtain ⟨b, o, rfl, hck⟩ := HX.out k hlt
      have hck' := ck hck HB.out
      have hz := HBd.out _ (natD_mem hlt)
      have hst := HM.out.step _ hz
      rw [← natT_snoc m k hlt] at hst
      have HM2 := Lib.hid hst
      obtain ⟨hcb, hfb⟩ := HBB.out.cell (k := m.getD k 0) (by rw [HM.out.1]; exact hz)
      have HSet := Lib.hid (fun s => HBB.out.set s true)
      clear hck hst
      generalize m.getD k 0 = z at *
      generalize bs.getD z false = old at *
      go_wp2
      go_roundw
      case rel => exact ⟨k + 1, bs.set z true, by omega, by go_num, HSet.out z, HM2.out, HB.out.setCell (p := ⟨w2.heap.size, z, none⟩) (Nat.le_refl _) _⟩
      case measure => simp [intOf]; omega
    · obtain rfl : k = m.length := by omega
      rw [List.take_length] at HM
      have HMet := Lib.hid HM.out.2
      have HCell := Lib.hid (fun s (hs : s < 40) => HBB.out.cell (k := s) (by rw [HM.out.1]; exact hs))
      have HBq := Lib.hid (HBase.out.trans (HB.out.mono HBase.out.size))
      clear HM HBB HBase
      go_wp2_with fail
      go_loop [31] (fun i => ∃ k : Nat, k ≤ m.length ∧ i = .int .i64 k ∧ (∀ i j, i < k → j < m.length → (m.getD i 0 + m.getD j 0) % n ∉ m)) (fun i => m.length - (intOf i).toNat)
      case atStart => exact ⟨0, Nat.zero_le _, rfl, fun i j hi => absurd hi (by omega)⟩
      case round =>
        obtain ⟨k, hk, rfl, hall⟩ := hrel
        have HA := Lib.hid hall
        clear hall
        by_cases hlt : k < m.length
        · obtain ⟨b, o, rfl, hck⟩ := HX.out k hlt
          have hck' := ck hck HB.out
          have hz := HBd.out _ (natD_mem hlt)
          have HBad := Lib.hid (fun j (hj : j < m.length) => apartB_bad (n := n) hlt hj)
          have HNx := Lib.hid (fun (hh : ∀ j, j < m.length → (m.getD k 0 + m.getD j 0) % n ∉ m) (i j : Nat) (hi : i < k + 1) (hj : j < m.length) => if e : i = k then (e ▸ hh j hj : (m.getD i 0 + m.getD j 0) % n ∉ m) else HA.out i j (by omega) hj)
          clear hck
          generalize m.getD k 0 = z at *
          go_wp2_with fail
          go_loop [37] (fun i => ∃ j : Nat, j ≤ m.length ∧ i = .int .i64 j ∧ (∀ i, i < j → (z + m.getD i 0) % n ∉ m)) (fun i => m.length - (intOf i).toNat)
          case atStart => exact ⟨0, Nat.zero_le _, rfl, fun i hi => absurd hi (by omega)⟩
          case round =>
            clear hck'
            obtain ⟨j, hj, rfl, hall⟩ := hrel
            have HA2 := Lib.hid hall
            clear hall
            by_cases hjk : j < m.length
            · obtain ⟨b', o', he, hcj⟩ := HX.out j hjk
              simp only [Option.some.injEq, Addr.mk.injEq] at he
              obtain ⟨rfl, rfl, _⟩ := he
              have hcj' := ck hcj HB.out
              have hy := HBd.out _ (natD_mem hjk)
              have HBad1 := Lib.hid (HBad.out j hjk)
              have HNx2 := Lib.hid (fun (hh : (z + m.getD j 0) % n ∉ m) (i : Nat) (hi : i < j + 1) => if e : i = j then (e ▸ hh : (z + m.getD i 0) % n ∉ m) else HA2.out i (by omega))
              clear hcj
              generalize m.getD j 0 = y at *
              have hs40 : (z + y) % n < 40 := Nat.lt_of_lt_of_le (Nat.mod_lt _ (by omega)) hn4
              have d3 : ((z:Int) + y).tmod n = (((z + y) % n : Nat) : Int) := by rw [← Int.natCast_add]; rfl
              have d4 : ((z:Int) + y) % n = (((z + y) % n : Nat) : Int) := by rw [← Int.natCast_add]; rfl
              have hmz : ((n:Int) == 0) = false := beq_eq_false_iff_ne.2 (by omega)
              have hmz1 : ¬ n = 0 := by omega
              have hmz2 : ¬ (n:Int) = 0 := by omega
              have HMem := Lib.hid (HMet.out _ hs40)
              obtain ⟨hcb, hfb⟩ := HCell.out _ hs40
              generalize (z + y) % n = s at *
              cases hh : bs.getD s false with
              | true =>
                have HF := Lib.hid (HBad1.out (of_decide_eq_true (by rw [← HMem.out, hh])))
                rw [hh] at hcb
                clear hh
                go_wp2
                go_ret
                exact ⟨ret_bool HF.out.symm, HBq.out⟩
              | false =>
                have HND2 := Lib.hid (HNx2.out (of_decide_eq_false (by rw [← HMem.out, hh])))
                rw [hh] at hcb
                clear hh
                go_wp2
                go_round
                case rel => exact ⟨j + 1, by omega, by go_num, HND2.out⟩
                case measure => simp [intOf]; omega
            · obtain rfl : j = m.length := by omega
              have HND2 := Lib.hid (HNx.out HA2.out)
              go_wp2
              go_round
              case rel => exact ⟨k + 1, by omega, by go_num, HND2.out⟩
              case measure => simp [intOf]; omega
        · obtain rfl : k = m.length := by omega
          have HF : Hid (apartB n m = true) := Lib.hid (apartB_good HA.out)
          go_wp2
          go_ret
          exact ⟨ret_bool HF.out.symm, HBq.out⟩

set_option maxHeartbeats 4000000 in
theorem rApart_any (n : Nat) (v : Value) (m : List Nat) (w : World) (hn : 2 ≤ n) (hn4 : n ≤ 40) (hl : ∀ y ∈ m, y < 40) (hml : m.length ≤ 41) (h : Nats w v m) :
    Calls Try.prog 44 #[.int .i64 n, v] w fun e w' => e = .returned (.bool (apartB n m)) ∧ w = w' := by
  have HBd := Lib.hid hl
  have HH := Lib.hid (fun s => hasN_any v m s w h)
  obtain ⟨ao', cap', rfl, h1, h2, hxx⟩ := h.open
  have HX := Lib.hid hxx
  clear hxx h hl
  go_enter Try.func44, Try.ntmps44
  go_wp2_with fail
  go_loop [11] (fun i => ∃ k : Nat, k ≤ m.length ∧ i = .int .i64 k ∧ (∀ i j, i < k → j < m.length → (m.getD i 0 + m.getD j 0) % n ∉ m)) (fun i => m.length - (intOf i).toNat)
  case atStart => exact ⟨0, Nat.zero_le _, rfl, fun i j hi => absurd hi (by omega)⟩
  case round =>
    obtain ⟨k, hk, rfl, hall⟩ := hrel
    have HA := Lib.hid hall
    clear hall
    by_cases hlt : k < m.length
    · obtain ⟨b, o, rfl, hck⟩ := HX.out k hlt
      have hz := HBd.out _ (natD_mem hlt)
      have HBad := Lib.hid (fun j (hj : j < m.length) => apartB_bad (n := n) hlt hj)
      have HNx := Lib.hid (fun (hh : ∀ j, j < m.length → (m.getD k 0 + m.getD j 0) % n ∉ m) (i j : Nat) (hi : i < k + 1) (hj : j < m.length) => if e : i = k then (e ▸ hh j hj : (m.getD i 0 + m.getD j 0) % n ∉ m) else HA.out i j (by omega) hj)
      generalize m.getD k 0 = z at *
      go_wp2_with fail
      go_loop [17] (fun i => ∃ j : Nat, j ≤ m.length ∧ i = .int .i64 j ∧ (∀ i, i < j → (z + m.getD i 0) % n ∉ m)) (fun i => m.length - (intOf i).toNat)
      case atStart => exact ⟨0, Nat.zero_le _, rfl, fun i hi => absurd hi (by omega)⟩
      case round =>
        clear hck
        obtain ⟨j, hj, rfl, hall⟩ := hrel
        have HA2 := Lib.hid hall
        clear hall
        by_cases hjk : j < m.length
        · obtain ⟨b', o', he, hcj⟩ := HX.out j hjk
          simp only [Option.some.injEq, Addr.mk.injEq] at he
          obtain ⟨rfl, rfl, _⟩ := he
          have hy := HBd.out _ (natD_mem hjk)
          have HBad1 := Lib.hid (HBad.out j hjk)
          have HNx2 := Lib.hid (fun (hh : (z + m.getD j 0) % n ∉ m) (i : Nat) (hi : i < j + 1) => if e : i = j then (e ▸ hh : (z + m.getD i 0) % n ∉ m) else HA2.out i (by omega))
          generalize m.getD j 0 = y at *
          have d3 : ((z:Int) + y).tmod n = (((z + y) % n : Nat) : Int) := by rw [← Int.natCast_add]; rfl
          have d4 : ((z:Int) + y) % n = (((z + y) % n : Nat) : Int) := by rw [← Int.natCast_add]; rfl
          have hmz : ((n:Int) == 0) = false := beq_eq_false_iff_ne.2 (by omega)
          have hmz1 : ¬ n = 0 := by omega
          have hmz2 : ¬ (n:Int) = 0 := by omega
          generalize (z + y) % n = s at *
          have HH1 := Lib.hid (HH.out s)
          cases hh : m.contains s with
          | true =>
            have HF := Lib.hid (HBad1.out (by rw [List.contains_eq_mem] at hh; exact of_decide_eq_true hh))
            rw [hh] at HH1
            clear hh
            go_wp2_with fail
            refine HH1.out.mono ?_
            rintro e w' ⟨rfl, rfl⟩
            go_wp2
            go_ret
            exact ⟨ret_bool HF.out.symm, rfl⟩
          | false =>
            have HND2 := Lib.hid (HNx2.out (by rw [List.contains_eq_mem] at hh; exact of_decide_eq_false hh))
            rw [hh] at HH1
            clear hh
            go_wp2_with fail
            refine HH1.out.mono ?_
            rintro e w' ⟨rfl, rfl⟩
            go_wp2
            go_round
            case rel => exact ⟨j + 1, by omega, by go_num, HND2.out⟩
            case measure => simp [intOf]; omega
        · obtain rfl : j = m.length := by omega
          have HND2 := Lib.hid (HNx.out HA2.out)
          go_wp2
          go_round
          case rel => exact ⟨k + 1, by omega, by go_num, HND2.out⟩
          case measure => simp [intOf]; omega
    · obtain rfl : k = m.length := by omega
      have HF : Hid (apartB n m = true) := Lib.hid (apartB_good HA.out)
      go_wp2
      go_ret
      exact ⟨ret_bool HF.out.symm, rfl⟩
end Go.Proofs.Ytlalfjkenkmojaa
