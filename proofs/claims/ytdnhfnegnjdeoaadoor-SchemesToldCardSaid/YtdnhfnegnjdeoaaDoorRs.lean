/- the reference's Switch -/
import Derived.Test.YtdnhfnegnjdeoaaDoorSw
namespace Go.Proofs.YtdnhfnegnjdeoaaDoor
open Go.RowKit

/-- One node, turned towards the first j nodes. -/
def nkN (s i x : Nat) : Nat → Nat
  | 0 => x
  | j + 1 => if s.testBit i != s.testBit j then nkN s i x j ^^^ 2 ^ j else nkN s i x j
theorem nkN_bit (s i x k j : Nat) : (nkN s i x k).testBit j = (x.testBit j != (decide (j < k) && (s.testBit i != s.testBit j))) := by
  induction k with
  | zero => simp [nkN]
  | succ k ih =>
    unfold nkN
    by_cases e : j = k
    · subst e
      cases h : (s.testBit i != s.testBit j)
      · rw [if_neg (by simp), ih]; simp [h]
      · rw [if_pos rfl, Nat.testBit_xor, ih, pow_bit]; simp [h]
    · have hd : decide (j < k + 1) = decide (j < k) := by
        by_cases h : j < k
        · rw [decide_eq_true h, decide_eq_true (by omega)]
        · rw [decide_eq_false h, decide_eq_false (by omega)]
      rw [hd]
      split
      · rw [Nat.testBit_xor, ih, pow_bit, decide_eq_false (show ¬ k = j from fun h => e h.symm)]; simp
      · exact ih
theorem nkN_lt {n s i x k : Nat} (hx : x < 2 ^ n) (hk : k ≤ n) : nkN s i x k < 2 ^ n := by
  induction k with
  | zero => exact hx
  | succ k ih =>
    unfold nkN
    split
    · exact Nat.xor_lt_two_pow (ih (by omega)) (Nat.pow_lt_pow_right (by decide) (by omega))
    · exact ih (by omega)
theorem nkN_end {n s i x : Nat} (hx : x < 2 ^ n) (hs : s < 2 ^ n) : nkN s i x n = swN n s i x :=
  bits_ext (nkN_lt hx (Nat.le_refl _)) (swN_lt hs hx) fun j hj => by rw [nkN_bit, swN_bit hj]; simp [hj]

set_option maxRecDepth 100000 in
set_option maxHeartbeats 2000000 in
theorem rSwitch_any (v : Value) (bs : List Nat) (n s : Nat) (w : World) (hb : Gr n bs) (h : Nats w v bs) (hs : s < 2 ^ n) :
    Calls Tryd.prog 41 #[v, .int .i64 s] w fun e w' => ∃ ao c, e = .returned (.slice ao n c) ∧ Nats w' (.slice ao n c) (swL n bs s) ∧ Below w.heap.size w w' := by
  obtain ⟨ao, cap, rfl, h1, hx⟩ := hb.open h
  have HX := Lib.hid hx
  have hn := hb.le
  have HG := Lib.hid (fun k => hb.get k)
  have hs16 : s < 65536 := Nat.lt_of_lt_of_le hs (pw_nat n hn).2
  have hn16 := (pw_nat n hn).2
  have HBIT := Lib.hid (fun j (_ : j ≤ 16) => bit_and1 s j hs16)
  have HSN := Lib.hid (fun k (hk : k < n) => (by have := gr_snoc k (swL_length n bs s) hk; rwa [swL_get hk] at this : nats ((swL n bs s).take (k + 1)) = nats ((swL n bs s).take k) ++ [((swN n s k (bs.getD k 0) : Nat) : Int)]))
  have HL := Lib.hid (fun k => (by rw [nats_length, List.length_take]; omega : (nats ((swL n bs s).take k)).length ≤ k))
  have HI64 := Lib.hid (swL_gr hb hs).i64
  have HEnd : Hid ((swL n bs s).take n = swL n bs s) := Lib.hid (List.take_of_length_le (by rw [swL_length]; exact Nat.le_refl _))
  have HLn : Hid ((nats (swL n bs s)).length = n) := Lib.hid (by rw [nats_length, swL_length])
  have HNK := Lib.hid (fun k => nkN_end (s := s) (i := k) (HG.out k) hs)
  have HNL := Lib.hid (fun k j (hj : j ≤ n) => nkN_lt (s := s) (i := k) (HG.out k) hj)
  obtain ⟨i0, hi0, hz0, hz1, hz2⟩ := info_parts Tryd.info3
  clear h hb hx
  go_enter Tryd.func41, Tryd.ntmps41
  go_wp2_with fail
  go_loopw [5, 11] (fun ss ii wr => ∃ k : Nat, k ≤ n ∧ ii = .int .i64 k ∧ wr.ownsRow w.heap.size 3 1 ss (nats ((swL n bs s).take k)).length (ints (nats ((swL n bs s).take k))) ∧ Below w.heap.size w wr) (fun _ ii _ => n - (intOf ii).toNat)
  case atStart => exact ⟨0, Nat.zero_le _, rfl, World.ownsRow_nil _ _ _ _, Below.refl _ _⟩
  case round =>
    obtain ⟨k, hk, rfl, hB, hb⟩ := hrel
    have HO := Lib.hid hB
    have HB := Lib.hid hb
    obtain ⟨ao', c', rfl⟩ := owns_form hB
    clear hB hb
    by_cases hlt : k < n
    · obtain ⟨b, o, rfl, hck⟩ := HX.out k hlt
      have hck' := ck hck HB.out
      have HS := Lib.hid (HSN.out k hlt)
      have hll := HL.out k
      have HE := Lib.hid (HNK.out k)
      have HNB := Lib.hid (HNL.out k)
      have hbk := HBIT.out k (by omega)
      have hk16 : k ≤ 16 := by omega
      have h0' : Hid (bs.getD k 0 = nkN s k (bs.getD k 0) 0) := rfl
      clear hck
      obtain ⟨r, hr⟩ : ∃ r, r = bs.getD k 0 := ⟨_, rfl⟩
      rw [← hr] at hck' HS HE HNB h0'
      clear hr
      generalize nats ((swL n bs s).take k) = tp at *
      generalize swN n s k r = z at *
      go_wp2_with fail
      go_loopw [7, 18] (fun nn jj wj => ∃ j : Nat, j ≤ n ∧ jj = .int .i64 j ∧ nn = .int .i64 (nkN s k r j : Nat) ∧ Below wr.heap.size wr wj) (fun _ jj _ => n - (intOf jj).toNat)
      case atStart => exact ⟨0, Nat.zero_le _, rfl, rfl, Below.refl _ _⟩
      case round =>
        rename World => wo
        obtain ⟨j, hj, rfl, rfl, hbj⟩ := hrel
        by_cases hjt : j < n
        · have hbb := HBIT.out j (by omega)
          have hj16 : j ≤ 16 := by omega
          have hlt1 := HNB.out j hj
          have hpj := pw_nat j hj16
          have hx := i64_xor (nkN s k r j) (2 ^ j) (by omega) (by omega)
          rw [pw_cast] at hx
          have HYES : Hid ((s.testBit k != s.testBit j) = true → nkN s k r j ^^^ 2 ^ j = nkN s k r (j + 1)) := Lib.hid fun h => by
            show _ = if _ then _ else _
            rw [if_pos h]
          have HNO : Hid ((s.testBit k != s.testBit j) = false → nkN s k r j = nkN s k r (j + 1)) := Lib.hid fun h => by
            show _ = if _ then _ else _
            rw [if_neg (by rw [h]; simp)]
          have hwj : IntKind.i64.wrap ((2:Int) ^ j) = (2:Int) ^ j := by rw [← pw_cast]; exact i64_of (by omega) (by omega)
          have HBD := Lib.hid (fun nq : Nat => below_drewN hbj nq)
          clear hpj hbj
          generalize nkN s k r j = x at *
          generalize x ^^^ 2 ^ j = xx at *
          cases e1 : s.testBit k with
          | true =>
            cases e2 : s.testBit j with
            | true =>
              have HN := Lib.hid (HNO.out (by rw [e1, e2]; rfl))
              have hb1 : bits .and .i64 ((s:Int) / 2 ^ k) 1 = 1 := by rw [hbk, e1]; rfl
              have hb2 : bits .and .i64 ((s:Int) / 2 ^ j) 1 = 1 := by rw [hbb, e2]; rfl
              clear HYES HNO hbb e1 e2
              go_wp2_with fail
              go_quiet (fail)
              go_wp2_with fail
              go_roundw
              case rel => exact ⟨j + 1, by omega, by go_num, by rw [← HN.out], HBD.out _⟩
              case measure => simp [intOf]; omega
            | false =>
              have HN := Lib.hid (HYES.out (by rw [e1, e2]; rfl))
              have hb1 : bits .and .i64 ((s:Int) / 2 ^ k) 1 = 1 := by rw [hbk, e1]; rfl
              have hb2 : bits .and .i64 ((s:Int) / 2 ^ j) 1 = 0 := by rw [hbb, e2]; rfl
              clear HYES HNO hbb e1 e2
              go_wp2_with fail
              go_quiet (fail)
              go_wp2_with fail
              go_roundw
              case rel => exact ⟨j + 1, by omega, by go_num, by rw [← HN.out], HBD.out _⟩
              case measure => simp [intOf]; omega
          | false =>
            cases e2 : s.testBit j with
            | true =>
              have HN := Lib.hid (HYES.out (by rw [e1, e2]; rfl))
              have hb1 : bits .and .i64 ((s:Int) / 2 ^ k) 1 = 0 := by rw [hbk, e1]; rfl
              have hb2 : bits .and .i64 ((s:Int) / 2 ^ j) 1 = 1 := by rw [hbb, e2]; rfl
              clear HYES HNO hbb e1 e2
              go_wp2_with fail
              go_quiet (fail)
              go_wp2_with fail
              go_roundw
              case rel => exact ⟨j + 1, by omega, by go_num, by rw [← HN.out], HBD.out _⟩
              case measure => simp [intOf]; omega
            | false =>
              have HN := Lib.hid (HNO.out (by rw [e1, e2]; rfl))
              have hb1 : bits .and .i64 ((s:Int) / 2 ^ k) 1 = 0 := by rw [hbk, e1]; rfl
              have hb2 : bits .and .i64 ((s:Int) / 2 ^ j) 1 = 0 := by rw [hbb, e2]; rfl
              clear HYES HNO hbb e1 e2
              go_wp2_with fail
              go_quiet (fail)
              go_wp2_with fail
              go_roundw
              case rel => exact ⟨j + 1, by omega, by go_num, by rw [← HN.out], HBD.out _⟩
              case measure => simp [intOf]; omega
        · obtain rfl : j = n := by omega
          have HBJ := Lib.hid (HB.out.trans (hbj.mono HB.out.size))
          have HOJ := Lib.hid (owns_below HO.out hbj (Nat.le_refl _))
          have hz : nkN s k r j = z := HE.out
          rw [hz]
          clear hbj HO HB
          go_wp2_with (at_builtin; go_must (refine wpList_append_own _ rfl _ _ 22 rfl w.heap.size 3 i0 (.int .i64 0) 1 8 Tryd.underlying22 hi0 hz0 hz1 hz2 rfl (by decide) _ _ _ rfl (HOJ.out.alloc _) ⟨wo.heap.size, 0, none⟩ 1 1 [.int .i64 z] rfl rfl (newOne _ _ _) (oneInt _) (by unfold maxLen; omega) (by omega) (by have := HBJ.out.size; simp; omega) ?_))
          intro v' w1 hown' hgrow _
          have HR := Lib.hid (int_step HOJ.out HBJ.out HBJ.out.size hown' hgrow)
          clear hown' hgrow
          go_wp2
          go_roundw
          case rel => exact ⟨k + 1, by omega, by go_num, by rw [HS.out]; exact HR.out.1, HR.out.2⟩
          case measure => simp [intOf]; omega
    · obtain rfl : k = n := by omega
      have HLL : Hid ((nats ((swL k bs s).take k)).length = k) := Lib.hid (by rw [HEnd.out, HLn.out])
      have HV : Hid (Nats wr (.slice ao' (nats ((swL k bs s).take k)).length c') (swL k bs s)) := Lib.hid (by
        have h := HO.out
        rw [HEnd.out] at h ⊢
        exact Ints.of_owns h (by rw [HLn.out]; omega) HI64.out)
      rw [HLL.out] at HV ⊢
      go_wp2_with fail
      go_ret
      exact ⟨_, _, rfl, HV.out, HB.out⟩
end Go.Proofs.YtdnhfnegnjdeoaaDoor
