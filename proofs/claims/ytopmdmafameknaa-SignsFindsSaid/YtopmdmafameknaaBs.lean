/- Best: the walks -/
import Derived.Test.YtopmdmafameknaaSu
namespace Go.Proofs.Ytopmdmafameknaa
open Go.RowKit

theorem matB_12 {xs : List Int} (h : matB 16 xs = true) (hl : xs.length ≤ 12) : matB 12 xs = true := by
  obtain ⟨h1, _, h3⟩ := of_decide_eq_true h
  exact decide_eq_true ⟨h1, hl, h3⟩
theorem matB_12f {xs : List Int} (h : matB 16 xs = false) : matB 12 xs = false := by
  cases h2 : matB 12 xs with
  | false => rfl
  | true =>
    obtain ⟨h1, h2, h3⟩ := of_decide_eq_true h2
    rw [show matB 16 xs = true from decide_eq_true ⟨h1, by omega, h3⟩] at h
    cases h

set_option maxHeartbeats 4000000 in
set_option maxRecDepth 100000 in
theorem Best_any (v : Value) (xs : List Int) (w : World) (h : Ints w v xs) :
    Calls Try.prog 32 #[v] w (BestPost w xs) := by
  have HV := Lib.hid (valid_any v xs w h)
  cases hs : matB 16 xs with
  | false =>
    rw [hs] at HV
    have HS := Lib.hid (matB_12f hs)
    obtain ⟨ao, cap, rfl, h1, h2, _⟩ := h.open
    clear h hs
    go_enter Try.func32, Try.ntmps32
    go_wp2_with fail
    refine HV.out.mono ?_
    rintro e w' ⟨rfl, rfl⟩
    go_wp2
    go_ret2
    unfold BestPost
    rw [HS.out]
    exact ⟨rfl, rfl⟩
  | true =>
    rw [hs] at HV
    obtain ⟨hh, n, rfl, hm, hl, hln⟩ := matB_of' (Nat.le_refl _) hs
    have HNL := Lib.hid hln
    have HS := Lib.hid (fun h => matB_12 hs h)
    obtain ⟨ao, cap, rfl, h1, hc⟩ := hm.open h
    have HC := Lib.hid hc
    have HG := Lib.hid hm.get
    clear h hs hm hc hln
    by_cases h12 : 12 < n
    · have HB : Hid (matB 12 (nats hh) = false) := matB_len (.inr (by rw [HNL.out]; exact h12))
      go_enter Try.func32, Try.ntmps32
      go_wp2_with fail
      refine HV.out.mono ?_
      rintro e w' ⟨rfl, rfl⟩
      go_wp2
      go_ret2
      unfold BestPost
      rw [HB.out]
      exact ⟨rfl, rfl⟩
    have hpw := wrap_pw n hl
    have hp16 := (pw_nat n hl).2
    rw [← pw_cast] at hpw
    obtain ⟨N, hN⟩ : ∃ N, N = 2 ^ n := ⟨_, rfl⟩
    have HN := Lib.hid hN
    have hpw' : wrap64 (2 ^ n) = (N : Int) := by rw [hN, pw_cast]; exact wrap_pw n hl
    rw [← hN] at hp16
    clear hpw hN
    go_enter Try.func32, Try.ntmps32
    go_wp2_with fail
    refine HV.out.mono ?_
    rintro e w' ⟨rfl, rfl⟩
    clear HV
    go_wp2_with fail
    go_loop [4, 20] (fun s i => ∃ k : Nat, k ≤ N ∧ i = .int .i64 k ∧ s = .int .i64 (bestP n hh k)) (fun _ i => N - (intOf i).toNat)
    case atStart => exact ⟨0, Nat.zero_le _, rfl, rfl⟩
    case round =>
      obtain ⟨c, hk, rfl, rfl⟩ := hrel
      have hbd := bestP_bd n c hh hl
      by_cases hlt : c < N
      · have HMx : Hid (bestP n hh (c+1) = max (bestP n hh c) (bestC n hh c n)) := rfl
        generalize bestP n hh c = best at *
        go_wp2_with fail
        go_loop [6, 25] (fun s i => ∃ k : Nat, k ≤ n ∧ i = .int .i64 k ∧ s = .int .i64 (bestC n hh c k)) (fun _ i => n - (intOf i).toNat)
        case atStart => exact ⟨0, Nat.zero_le _, rfl, rfl⟩
        case round =>
          obtain ⟨k, hk2, rfl, rfl⟩ := hrel
          have hbc := bestC_bd n k hh c hl (by omega)
          by_cases hltk : k < n
          · obtain ⟨b, o, rfl, hck⟩ := HC.out k hltk
            have hxl := HG.out k
            have hxor := i64_xor (hh.getD k 0) c (by rw [← HN.out] at hxl; omega) (by omega)
            have hzl : hh.getD k 0 ^^^ c < 2 ^ n := xor_lt hxl (by rw [← HN.out]; exact hlt)
            have HA := Lib.hid (sum_any (hh.getD k 0 ^^^ c) n w hzl hl)
            have hrb := rowS_bd n (hh.getD k 0 ^^^ c) hl
            have HAb := Lib.hid (abs_any (rowS n (hh.getD k 0 ^^^ c)) w (by omega))
            have hab := absI_bd hrb
            have HSu : Hid (bestC n hh c (k+1) = bestC n hh c k + absI (rowS n (hh.getD k 0 ^^^ c))) := rfl
            have HRw : Hid (((n:Nat):Int) - 2 * (pop n (hh.getD k 0 ^^^ c) : Int) = rowS n (hh.getD k 0 ^^^ c)) := rfl
            rw [HRw.out] at HA
            clear hzl hxl HRw
            generalize bestC n hh c k = s at *
            generalize absI (rowS n (hh.getD k 0 ^^^ c)) = r2 at *
            generalize rowS n (hh.getD k 0 ^^^ c) = r at *
            generalize hh.getD k 0 ^^^ c = z at *
            generalize hh.getD k 0 = x at *
            go_wp2_with fail
            refine HA.out.mono ?_
            rintro e w' ⟨rfl, rfl⟩
            go_wp2_with fail
            refine HAb.out.mono ?_
            rintro e w' ⟨rfl, rfl⟩
            go_wp2
            go_round
            case rel => exact ⟨k + 1, by omega, by go_num, by rw [HSu.out]⟩
            case measure => simp [intOf]; omega
          · obtain rfl : k = n := by omega
            generalize bestC k hh c k = t at *
            by_cases hmx : best < t
            · have HR : Hid (bestP k hh (c+1) = t) := by rw [HMx.out]; exact Int.max_eq_right (by omega)
              go_wp2
              go_round
              case rel => exact ⟨_, _, _, _, Value.int .i64 ((c:Int)+1), ⟨c + 1, by omega, by go_num, by rw [HR.out]⟩, rfl, rfl, rfl, rfl, rfl⟩
              case measure => simp [intOf]; omega
            · have HR : Hid (bestP k hh (c+1) = best) := by rw [HMx.out]; exact Int.max_eq_left (by omega)
              go_wp2
              go_round
              case rel => exact ⟨_, _, _, _, Value.int .i64 ((c:Int)+1), ⟨c + 1, by omega, by go_num, by rw [HR.out]⟩, rfl, rfl, rfl, rfl, rfl⟩
              case measure => simp [intOf]; omega
      · obtain rfl : c = N := by omega
        have HE := Lib.hid (show bestP n hh c = bestP (nats hh).length ((nats hh).map Int.toNat) (2 ^ (nats hh).length) by rw [nats_toNat, HNL.out, HN.out])
        have HS' := Lib.hid (HS.out (by rw [HNL.out]; omega))
        go_wp2
        go_ret2
        unfold BestPost
        rw [if_pos HS'.out, ← HE.out]
        exact ⟨rfl, rfl⟩

theorem quiet_eq {P : Program} {f : FuncId} {args : Array Value} {w : World} {n : Nat} {v : Value}
    (h : Calls P f args (w.drewN n) fun e w' => e = .returned v ∧ w.drewN n = w') : Calls P f args (w.drewN n) fun e w'' => e = .returned v ∧ ∃ m, w'' = w.drewN m :=
  h.mono fun _ _ ⟨he, hm⟩ => ⟨he, n, hm.symm⟩

theorem sg_bd (x j : Nat) : -1 ≤ sg x j ∧ sg x j ≤ 1 := by rcases sg_cases x j with h | h <;> rw [h] <;> decide

set_option maxHeartbeats 4000000 in
set_option maxRecDepth 100000 in
theorem rBest_any (v : Value) (n : Nat) (hs : List Nat) (w : World) (h : Nats w v hs) (hm : Mat n hs) :
    Calls Try.prog 34 #[v] w fun e w' => e = .returned (.int .i64 (bestQ n hs (2 ^ n))) ∧ Below w.heap.size w w' := by
  have HAt := Lib.hid (fun i j w' (hb : Below w.heap.size w w') (hi : i < n) (hj : j ≤ 16) => at_any v hs i j w' (h.below hb (Nat.le_refl _)) (by rw [hm.len]; exact hi) (hm.get16 i) hj)
  obtain ⟨ao, cap, rfl, h1, _⟩ := hm.open h
  have hn := hm.le
  have hp16 := (pw_nat n hn).2
  obtain ⟨N, hN⟩ : ∃ N, N = 2 ^ n := ⟨_, rfl⟩
  have HN := Lib.hid hN
  have hpw' : wrap64 (2 ^ n) = (N : Int) := by rw [hN, pw_cast]; exact wrap_pw n hn
  rw [← hN] at hp16
  clear h hm hN
  go_enter Try.func34, Try.ntmps34
  go_wp2_with fail
  go_loopw [3, 12] (fun s i wr => ∃ k : Nat, k ≤ N ∧ i = .int .i64 k ∧ s = .int .i64 (bestQ n hs k) ∧ Below w.heap.size w wr) (fun _ i _ => N - (intOf i).toNat)
  case atStart => exact ⟨0, Nat.zero_le _, rfl, rfl, Below.refl _ _⟩
  case round =>
    obtain ⟨r, hk, rfl, rfl, hb⟩ := hrel
    have HB := Lib.hid hb
    clear hb
    have hbd := bestQ_bd n r hs hn
    by_cases hlt : r < N
    · have HMx : Hid (bestQ n hs (r+1) = max (bestQ n hs r) (bestR n hs r n)) := rfl
      generalize bestQ n hs r = best at *
      go_wp2_with fail
      go_loopw [5, 17] (fun s i wr => ∃ k : Nat, k ≤ n ∧ i = .int .i64 k ∧ s = .int .i64 (bestR n hs r k) ∧ Below w.heap.size w wr) (fun _ i _ => n - (intOf i).toNat)
      case atStart => exact ⟨0, Nat.zero_le _, rfl, rfl, HB.out⟩
      case round =>
        obtain ⟨j, hj, rfl, rfl, hb⟩ := hrel
        have HB := Lib.hid hb
        clear hb
        have hbr := bestR_bd n j hs r hn (by omega)
        by_cases hltj : j < n
        · have HSu : Hid (bestR n hs r (j+1) = bestR n hs r j + absI (colK hs r j n)) := rfl
          generalize bestR n hs r j = s at *
          go_wp2_with fail
          go_loopw [7, 22] (fun s i wr => ∃ k : Nat, k ≤ n ∧ i = .int .i64 k ∧ s = .int .i64 (colK hs r j k) ∧ Below w.heap.size w wr) (fun _ i _ => n - (intOf i).toNat)
          case atStart => exact ⟨0, Nat.zero_le _, rfl, rfl, HB.out⟩
          case round =>
            obtain ⟨i, hi, rfl, rfl, hb⟩ := hrel
            have HB := Lib.hid hb
            clear hb
            have hcb := colK_bd hs r j i (by omega)
            by_cases hlti : i < n
            · have HC : Hid (colK hs r j (i+1) = colK hs r j i + sg (hs.getD i 0) j * sg r i) := rfl
              have HA := Lib.hid (fun q => HAt.out i j _ (below_drewN HB.out q) hlti (by omega))
              have hand := bit_and1 r i (by omega)
              have hsg := sg_and1 r i (by omega)
              have hb01 : 0 ≤ bits .and .i64 ((r:Int) / 2 ^ i) 1 ∧ bits .and .i64 ((r:Int) / 2 ^ i) 1 ≤ 1 := by rw [hand]; cases r.testBit i <;> decide
              have hmb := sg_mul_bd (hs.getD i 0) r j i
              have hs1 := sg_bd (hs.getD i 0) j
              have hs2 := sg_bd r i
              clear hand
              generalize colK hs r j i = t at *
              generalize sg (hs.getD i 0) j = x at *
              generalize sg r i = y at *
              go_wp2_with fail
              go_quiet ((go_at_call 67; exact quiet_eq (HA.out _)))
              go_wp2
              go_roundw
              case rel => exact ⟨i + 1, by omega, by go_num, by rw [HC.out], below_drewN HB.out _⟩
              case measure => simp [intOf]; omega
            · obtain rfl : i = n := by omega
              generalize colK hs r j i = t at *
              by_cases ht : t < -t
              · have hab' : Hid (absI t = -t) := Int.max_eq_right (by omega)
                go_wp2
                go_roundw
                case rel => exact ⟨j + 1, by omega, by go_num, by rw [HSu.out, hab'.out], HB.out⟩
                case measure => simp [intOf]; omega
              · have hab' : Hid (absI t = t) := Int.max_eq_left (by omega)
                go_wp2
                go_roundw
                case rel => exact ⟨j + 1, by omega, by go_num, by rw [HSu.out, hab'.out], HB.out⟩
                case measure => simp [intOf]; omega
        · obtain rfl : j = n := by omega
          generalize bestR j hs r j = t at *
          by_cases hmx : best < t
          · have HR : Hid (bestQ j hs (r+1) = t) := by rw [HMx.out]; exact Int.max_eq_right (by omega)
            go_wp2
            go_roundw
            case rel => exact ⟨r + 1, by omega, by go_num, by rw [HR.out], HB.out⟩
            case measure => simp [intOf]; omega
          · have HR : Hid (bestQ j hs (r+1) = best) := by rw [HMx.out]; exact Int.max_eq_left (by omega)
            go_wp2
            go_roundw
            case rel => exact ⟨r + 1, by omega, by go_num, by rw [HR.out], HB.out⟩
            case measure => simp [intOf]; omega
    · obtain rfl : r = N := by omega
      go_wp2
      go_ret
      exact ⟨ret_int (by rw [HN.out]), HB.out⟩
end Go.Proofs.Ytopmdmafameknaa
