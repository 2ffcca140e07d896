/- RooksEither: the walk -/
import Derived.Test.YtellnklbkjajbaaDoorLv
namespace Go.Proofs.YtellnklbkjajbaaDoor
open Go.RowKit

/-- The columns of the first k rows. -/
def tkF (p : List Nat) : Nat → Nat
  | 0 => 0
  | k + 1 => tkF p k ||| 2 ^ p.getD k 0
theorem tkF_bit (p : List Nat) (j : Nat) : ∀ k, (tkF p k).testBit j = true → ∃ m, m < k ∧ p.getD m 0 = j
  | 0, h => by simp [tkF] at h
  | k + 1, h => by
    rw [tkF, Nat.testBit_or, Bool.or_eq_true, Nat.testBit_two_pow] at h
    rcases h with h | h
    · obtain ⟨m, a, b⟩ := tkF_bit p j k h
      exact ⟨m, by omega, b⟩
    · exact ⟨k, by omega, of_decide_eq_true h⟩
theorem tkF_lt (p : List Nat) : ∀ k, (∀ m, m < k → p.getD m 0 < 6) → tkF p k < 2 ^ 6
  | 0, _ => by simp [tkF]
  | k + 1, h => Nat.or_lt_two_pow (tkF_lt p k fun m hm => h m (by omega)) (Nat.pow_lt_pow_right (by decide) (h k (by omega)))
/-- How many of the first k bits are set. -/
def cb (x : Nat) : Nat → Nat
  | 0 => 0
  | k + 1 => cb x k + (x.testBit k).toNat
theorem cb_fl : ∀ n ≤ 6, ∀ x < 2 ^ n, cb x n = fl x := by decide +kernel
theorem cb_le (x : Nat) : ∀ k, cb x k ≤ k
  | 0 => Nat.le_refl _
  | k + 1 => by have := cb_le x k; have : (x.testBit k).toNat ≤ 1 := Bool.toNat_le _; rw [cb]; omega

theorem either_ways {n : Nat} {bs : List Nat} (hb : Brd n bs) :
    (avE n bs = 0 ∧ 0 < (hitsL bs).getD 0 0 ∧ bar3 n bs = (0, 0, 4) ∧ (avL n bs).length = n ∧ ∀ k, k < n → (avL n bs).getD k 0 < n ∧ (bs.getD k 0).testBit ((avL n bs).getD k 0) = false ∧ (tkF (avL n bs) k).testBit ((avL n bs).getD k 0) = false) ∨
    (avE n bs = 4 ∧ (hitsL bs).getD 0 0 = 0 ∧ ∃ S c : Nat, bar3 n bs = ((S : Int), (c : Int), 0) ∧ S < 2 ^ n ∧ c < 2 ^ n ∧ n < cb S n + cb c n ∧ ∀ k, k < n → S.testBit k = true → bs.getD k 0 &&& c = c) := by
  have hz := hits_zero hb
  have hn := hb.le
  unfold avE avL
  cases hf : freeL n bs with
  | cons p ps =>
    left
    have hm : p ∈ freeL n bs := by rw [hf]; exact List.mem_cons_self ..
    obtain ⟨h1, h2⟩ := freeL_mem hb hm
    rw [hf] at hz
    refine ⟨rfl, by rw [hz]; simp, ?_, h1, fun k hk => ⟨(h2 k hk).1, (h2 k hk).2.1, ?_⟩⟩
    · unfold bar3
      have : (List.range (2 ^ n)).find? (barB n bs) = none := by
        rw [List.find?_eq_none]
        intro S hS hbar
        have := either_bar hb S (List.mem_range.1 hS) hbar
        rw [hf] at this
        cases this
      rw [this]
    · show (tkF p k).testBit (p.getD k 0) = false
      cases ht : (tkF p k).testBit (p.getD k 0) with
      | false => rfl
      | true =>
        obtain ⟨m, a, b⟩ := tkF_bit p _ k ht
        exact absurd b ((h2 k hk).2.2 m a)
  | nil =>
    right
    rw [hf] at hz
    refine ⟨rfl, by rw [hz]; rfl, ?_⟩
    unfold bar3
    cases hS : (List.range (2 ^ n)).find? (barB n bs) with
    | none =>
      exfalso
      rw [List.find?_eq_none] at hS
      exact bar_either hb (fun S h => by have := hS S (List.mem_range.2 h); simpa using this) hf
    | some S =>
      rw [List.find?_range_eq_some] at hS
      obtain ⟨h1, h2, _⟩ := hS
      have h2 := List.mem_range.1 h2
      have hp := pw6 n hn
      have hc := cm_lt (n := n) bs S (show 2 ^ n - 1 < 2 ^ n by omega) n
      refine ⟨S, cm (2 ^ n - 1) bs S n, rfl, h2, hc, ?_, fun k hk hs => Nat.eq_of_testBit_eq fun j => ?_⟩
      · rw [cb_fl n hn S h2, cb_fl n hn _ hc]
        exact of_decide_eq_true h1
      · rw [Nat.testBit_and]
        cases hj : (cm (2 ^ n - 1) bs S n).testBit j with
        | false => simp
        | true =>
          rw [((cm_bit _ _ _ _ _).1 hj).2 k hk hs]; rfl

set_option maxHeartbeats 8000000 in
set_option maxRecDepth 100000 in
theorem rooksEither_law (v : Value) (xs : List Int) (w : World) (h : Ints w v xs) (hT : Tab w) :
    Calls Tryd.prog 11 #[v] w fun e w' => e = .returned (.bool true) ∧ Below w.heap.size w w' := by
  have HL := Lib.hid (fun w' (hb : Below w.heap.size w w') => list_any v xs w' (h.below hb (Nat.le_refl _)))
  have HM := Lib.hid (fun w' (hb : Below w.heap.size w w') => Board_any v xs w' (h.below hb (Nat.le_refl _)))
  have HTab := Lib.hid (fun w' (hb : Below w.heap.size w w') => tab_block hT (hb.block 1 (tab_lt hT)))
  have HAw := Lib.hid (fun w' (hb : Below w.heap.size w w') => awake_any w' (HTab.out w' hb))
  cases hs : boardB xs with
  | false =>
    have HAv := Lib.hid (fun v' w' (h' : Ints w' v' (xs.take 9)) => Avoid_bad v' (xs.take 9) w' (by rw [boardB_take, hs]) h')
    have HBa := Lib.hid (fun v' w' (h' : Ints w' v' (xs.take 9)) => Barrier_bad v' (xs.take 9) w' (by rw [boardB_take, hs]) h')
    have HHt := Lib.hid (fun v' w' (h' : Ints w' v' (xs.take 9)) => Hits_bad v' (xs.take 9) w' (by rw [boardB_take, hs]) h')
    clear hs h hT
    have HB0 := Lib.hid (Below.refl w.heap.size w)
    go_enter Tryd.func11, Tryd.ntmps11
    go_wp2_with fail
    refine (HL.out w HB0.out).mono ?_
    rintro e w1 ⟨v1, rfl, hv1, hb1⟩
    have HB1 := Lib.hid (HB0.out.trans (hb1.mono HB0.out.size))
    have A_1 := Lib.hid (hv1)
    clear hb1 hv1
    go_wp2_with fail
    refine (HAv.out v1 w1 A_1.out).mono ?_
    rintro e w2 ⟨rfl, hb2⟩
    have HB2 := Lib.hid (HB1.out.trans (hb2.mono HB1.out.size))
    have A_2 := Lib.hid (A_1.out.below hb2 (Nat.le_refl _))
    clear hb2
    clear A_2
    go_wp2_with fail
    refine (HL.out w2 HB2.out).mono ?_
    rintro e w3 ⟨v3, rfl, hv3, hb3⟩
    have HB3 := Lib.hid (HB2.out.trans (hb3.mono HB2.out.size))
    have B_3 := Lib.hid (hv3)
    clear hb3 hv3
    go_wp2_with fail
    refine (HBa.out v3 w3 B_3.out).mono ?_
    rintro e w4 ⟨rfl, hb4⟩
    have HB4 := Lib.hid (HB3.out.trans (hb4.mono HB3.out.size))
    have B_4 := Lib.hid (B_3.out.below hb4 (Nat.le_refl _))
    clear hb4
    clear B_4
    go_wp2_with fail
    refine (HL.out w4 HB4.out).mono ?_
    rintro e w5 ⟨v5, rfl, hv5, hb5⟩
    have HB5 := Lib.hid (HB4.out.trans (hb5.mono HB4.out.size))
    have C_5 := Lib.hid (hv5)
    clear hb5 hv5
    go_wp2_with fail
    refine (HHt.out v5 w5 C_5.out).mono ?_
    rintro e w6 ⟨rfl, hb6⟩
    have HB6 := Lib.hid (HB5.out.trans (hb6.mono HB5.out.size))
    have C_6 := Lib.hid (C_5.out.below hb6 (Nat.le_refl _))
    clear hb6
    clear C_6
    go_wp2_with fail
    refine (HAw.out w6 HB6.out).mono ?_
    rintro e w7 ⟨rfl, hb7⟩
    have HB7 := Lib.hid (HB6.out.trans (hb7.mono HB6.out.size))
    clear hb7
    go_wp2
    go_ret
    exact ⟨rfl, HB7.out⟩
  | true =>
    obtain ⟨bs, rfl, hb⟩ := boardB_of hs
    rw [nats_length] at hb
    obtain ⟨n, hn⟩ : ∃ n, n = bs.length := ⟨_, rfl⟩
    rw [← hn] at hb
    have hn6 := hb.le
    have hn1 := hb.pos
    have ht : (nats bs).take 9 = nats bs := List.take_of_length_le (by rw [nats_length]; omega)
    rw [ht] at HL
    rw [hs] at HM
    have HAv := Lib.hid (fun v' w' (h' : Nats w' v' bs) (hT' : Tab w') => Avoid_val v' bs n w' hb h' hT')
    have HBa := Lib.hid (fun v' w' (h' : Nats w' v' bs) (hT' : Tab w') => Barrier_val v' bs n w' hb h' hT')
    have HHt := Lib.hid (fun v' w' (h' : Nats w' v' bs) (hT' : Tab w') => Hits_any v' bs n w' hb h' hT')
    have HEi := Lib.hid (either_ways hb)
    have HLen := Lib.hid (hitsL_length bs)
    have hpw := pw6 n hn6
    have hwp := wrap_pw n (by omega)
    have hpc := pw_cast n
    have HLt := Lib.hid (fun k => Nat.lt_of_lt_of_le (hb.get k) hpw.2)
    obtain ⟨ao, cap, rfl, h1, _, hx⟩ := h.open
    have HX := Lib.hid (fun w' (hb' : Below w.heap.size w w') k (hk : k < n) => by
      obtain ⟨b, o, e, hc⟩ := hx k (by rw [nats_length]; omega)
      rw [nats_getD] at hc
      exact (⟨b, o, e, (hb'.cell (World.block_lt_of_cell? w _ hc)).trans hc⟩ : ∃ b o, ao = some ⟨b, o, none⟩ ∧ w'.cell? ⟨b, o + k, none⟩ = some (.int .i64 (bs.getD k 0 : Nat))))
    rw [nats_length, ← hn] at h1 HL HM ⊢
    generalize avL n bs = l at *
    generalize avE n bs = ea at *
    generalize bar3 n bs = t at *
    generalize hitsL bs = hl at *
    obtain ⟨x, y, f⟩ := t
    clear hs h hb ht hT hn hx
    have HB0 := Lib.hid (Below.refl w.heap.size w)
    go_enter Tryd.func11, Tryd.ntmps11
    go_wp2_with fail
    refine (HL.out w HB0.out).mono ?_
    rintro e w1 ⟨v1, rfl, hv1, hb1⟩
    have HB1 := Lib.hid (HB0.out.trans (hb1.mono HB0.out.size))
    have A_1 := Lib.hid (hv1)
    clear hb1 hv1
    go_wp2_with fail
    refine (HAv.out v1 w1 A_1.out (HTab.out w1 HB1.out)).mono ?_
    rintro e w2 ⟨v2, rfl, hv2, hb2⟩
    have HB2 := Lib.hid (HB1.out.trans (hb2.mono HB1.out.size))
    have A_2 := Lib.hid (A_1.out.below hb2 (Nat.le_refl _))
    have X_2 := Lib.hid (hv2)
    clear hb2 hv2
    clear A_2
    go_wp2_with fail
    refine (HL.out w2 HB2.out).mono ?_
    rintro e w3 ⟨v3, rfl, hv3, hb3⟩
    have HB3 := Lib.hid (HB2.out.trans (hb3.mono HB2.out.size))
    have X_3 := Lib.hid (X_2.out.below hb3 (Nat.le_refl _))
    have B_3 := Lib.hid (hv3)
    clear hb3 hv3
    go_wp2_with fail
    refine (HBa.out v3 w3 B_3.out (HTab.out w3 HB3.out)).mono ?_
    rintro e w4 ⟨rfl, hb4⟩
    have HB4 := Lib.hid (HB3.out.trans (hb4.mono HB3.out.size))
    have X_4 := Lib.hid (X_3.out.below hb4 (Nat.le_refl _))
    have B_4 := Lib.hid (B_3.out.below hb4 (Nat.le_refl _))
    clear hb4
    clear B_4
    go_wp2_with fail
    refine (HL.out w4 HB4.out).mono ?_
    rintro e w5 ⟨v5, rfl, hv5, hb5⟩
    have HB5 := Lib.hid (HB4.out.trans (hb5.mono HB4.out.size))
    have X_5 := Lib.hid (X_4.out.below hb5 (Nat.le_refl _))
    have C_5 := Lib.hid (hv5)
    clear hb5 hv5
    go_wp2_with fail
    refine (HHt.out v5 w5 C_5.out (HTab.out w5 HB5.out)).mono ?_
    rintro e w6 ⟨A, rfl, hI, hb6⟩
    have HB6 := Lib.hid (HB5.out.trans (hb6.mono HB5.out.size))
    have X_6 := Lib.hid (X_5.out.below hb6 (Nat.le_refl _))
    have C_6 := Lib.hid (C_5.out.below hb6 (Nat.le_refl _))
    have HI := Lib.hid hI
    clear hb6 hI
    clear C_6
    go_wp2_with fail
    refine (HM.out w6 HB6.out).mono ?_
    rintro e w' ⟨rfl, rfl⟩
    obtain ⟨hcz, _⟩ := HI.out.cell (k := 0) (by rw [HLen.out]; omega)
    generalize hl.getD 0 0 = z at *
    rcases HEi.out with ⟨rfl, hz, ht, hll, hk⟩ | ⟨rfl, rfl, S, c, ht, hS, hc, hcnt, hk⟩
    · simp only [Prod.mk.injEq] at ht
      obtain ⟨rfl, rfl, rfl⟩ := ht
      have HK := Lib.hid hk
      have HLt6 : Hid (∀ k, k ≤ n → tkF l k < 64) := Lib.hid fun k hkn => tkF_lt l k fun m hm => by have := (hk m (by omega)).1; omega
      obtain ⟨aoL, capL, rfl, _, _, hxL⟩ := X_6.out.open
      have HXL := Lib.hid hxL
      rw [nats_length, hll] at HXL ⊢
      have hnz : ((n:Int) + 1 == 0) = false := by simp; omega
      have hzp : (decide ((0:Int) < z)) = true := decide_eq_true hz
      clear hk hxL HEi HLen HI
      go_wp2_with fail
      go_loop [11, 96] (fun t ii => ∃ k : Nat, k ≤ n ∧ ii = .int .i64 k ∧ t = .int .i64 (tkF l k : Nat)) (fun _ ii => n - (intOf ii).toNat)
      case atStart => exact ⟨0, Nat.zero_le _, rfl, rfl⟩
      case round =>
        obtain ⟨k, hkn, rfl, rfl⟩ := hrel
        by_cases hlt : k < n
        · obtain ⟨b, o, rfl, hcb⟩ := HX.out w6 HB6.out k hlt
          obtain ⟨bL, oL, rfl, hcL⟩ := HXL.out k hlt
          rw [nats_getD] at hcL
          obtain ⟨k1, k2, k3⟩ := HK.out k hlt
          have htk := HLt6.out k hkn
          have hr := HLt.out k
          have hTS : Hid (tkF l (k + 1) = tkF l k ||| 2 ^ l.getD k 0) := rfl
          generalize tkF l k = tk at *
          generalize bs.getD k 0 = r at *
          generalize l.getD k 0 = j at *
          have hbt := bit_and1 tk j (by omega)
          have hbr := bit_and1 r j (by omega)
          rw [k3] at hbt
          rw [k2] at hbr
          have hbt' : bits .and .i64 ((tk:Int) / 2 ^ j) 1 = 0 := hbt
          have hbr' : bits .and .i64 ((r:Int) / 2 ^ j) 1 = 0 := hbr
          have hp256 : 2 ^ j ≤ 64 := Nat.pow_le_pow_right (n := 2) (by decide) (show j ≤ 6 by omega)
          have hor : bits .or .i64 (tk:Int) ((2:Int) ^ j) = ((tk ||| 2 ^ j : Nat) : Int) := by rw [← pw_cast]; exact i64_or _ _ (by omega) (by omega)
          have hwj := wrap_pw j (by omega)
          have g1 : ¬ ((n:Int) ≤ (k:Int)) := by omega
          have g2 : ¬ ((j:Int) < 0) := by omega
          have g3 : ¬ ((n:Int) ≤ (j:Int)) := by omega
          clear hbt hbr k2 k3 hp256
          go_wp2_with fail
          go_round
          case rel => exact ⟨k + 1, by omega, by go_num, by rw [hTS.out]⟩
          case measure => simp [intOf]; omega
        · obtain rfl : k = n := by omega
          go_wp2_with fail
          refine (HAw.out w6 HB6.out).mono ?_
          rintro e w' ⟨rfl, hb'⟩
          have HBF := Lib.hid (HB6.out.trans (hb'.mono HB6.out.size))
          clear hb'
          go_wp2
          go_ret
          exact ⟨rfl, HBF.out⟩
    · simp only [Prod.mk.injEq] at ht
      obtain ⟨rfl, rfl, rfl⟩ := ht
      have HK := Lib.hid hk
      have hpn : (2:Int) ^ n = ((2 ^ n : Nat) : Int) := hpc.symm
      have hnz : ((n:Int) + 1 == 0) = false := by simp; omega
      clear hk HEi HLen HI
      go_wp2_with fail
      go_loopw [14, 143] (fun t ii wr => Below w.heap.size w wr ∧ ∃ k : Nat, k ≤ n ∧ ii = .int .i64 k ∧ t = .int .i64 (cb S k + cb c k : Nat)) (fun _ ii _ => n - (intOf ii).toNat)
      case atStart => exact ⟨HB6.out, 0, Nat.zero_le _, rfl, rfl⟩
      case round =>
        obtain ⟨hBm, k, hkn, rfl, rfl⟩ := hrel
        by_cases hlt : k < n
        · obtain ⟨b, o, rfl, hcb⟩ := HX.out _ hBm k hlt
          have hr := HLt.out k
          have q1 := cb_le S k
          have q2 := cb_le c k
          have HS : Hid (cb S (k + 1) = cb S k + (S.testBit k).toNat) := rfl
          have HC : Hid (cb c (k + 1) = cb c k + (c.testBit k).toNat) := rfl
          have hbs := bit_and1 S k (by omega)
          have hbc := bit_and1 c k (by omega)
          have hand0 := HK.out k hlt
          have hcm : (c.testBit k).toNat ≤ 1 := Bool.toNat_le _
          have hi0 : (0:Int) ≤ (k:Int) := by omega
          have hi1 : (k:Int) < (n:Int) := by omega
          obtain ⟨q, hq⟩ : ∃ q, cb S k + cb c k = q := ⟨_, rfl⟩
          rw [hq]
          have HQ := Lib.hid hq
          have hq12 : q ≤ 12 := by omega
          have HBm := Lib.hid hBm
          clear hq q1 q2 hBm
          generalize (c.testBit k).toNat = mc at *
          generalize bs.getD k 0 = r at *
          cases hb : S.testBit k with
          | true =>
            rw [hb] at hbs HS
            have hbs' : bits .and .i64 ((S:Int) / 2 ^ k) 1 = 1 := hbs
            have hand : bits .and .i64 (r:Int) (c:Int) = (c:Int) := by rw [i64_and r c (by omega) (by omega), hand0 hb]
            have hw1 : IntKind.i64.wrap ((1:Int) + (mc:Int)) = 1 + mc := i64_of (by omega) (by omega)
            have hw2 : IntKind.i64.wrap ((q:Int) + (1 + (mc:Int))) = ((q + 1 + mc : Nat) : Int) := by rw [i64_of (by omega) (by omega)]; omega
            clear hbs hand0 hb
            go_wp2_with fail
            go_quiet (fail)
            go_wp2_with fail
            go_roundw
            case rel => exact ⟨below_drewN HBm.out _, k + 1, by omega, by go_num, by rw [HS.out, HC.out]; have := HQ.out; go_num⟩
            case measure => simp [intOf]; omega
          | false =>
            rw [hb] at hbs HS
            have hbs' : bits .and .i64 ((S:Int) / 2 ^ k) 1 = 0 := hbs
            have hw1 : IntKind.i64.wrap ((0:Int) + (mc:Int)) = mc := by rw [Int.zero_add]; exact i64_of (by omega) (by omega)
            have hw2 : IntKind.i64.wrap ((q:Int) + (mc:Int)) = ((q + mc : Nat) : Int) := by rw [i64_of (by omega) (by omega)]; omega
            clear hbs hand0 hb
            go_wp2_with fail
            go_quiet (fail)
            go_wp2_with fail
            go_roundw
            case rel => exact ⟨below_drewN HBm.out _, k + 1, by omega, by go_num, by rw [HS.out, HC.out]; have := HQ.out; go_num⟩
            case measure => simp [intOf]; omega
        · obtain rfl : k = n := by omega
          have hcn : ((cb S k + cb c k : Nat) : Int) > k := by omega
          have hSi : (S:Int) < 2 ^ k := by rw [hpn]; exact Int.ofNat_lt.2 hS
          have hci : (c:Int) < 2 ^ k := by rw [hpn]; exact Int.ofNat_lt.2 hc
          have hS0 : (0:Int) ≤ (S:Int) := by omega
          have hc0 : (0:Int) ≤ (c:Int) := by omega
          have HBm := Lib.hid hBm
          clear hcnt hBm hpn hpc hpw hS hc
          generalize ((cb S k + cb c k : Nat) : Int) = q at *
          go_wp2_with fail
          refine (HAw.out wr HBm.out).mono ?_
          rintro e w' ⟨rfl, hb'⟩
          have HBF := Lib.hid (HBm.out.trans (hb'.mono HBm.out.size))
          clear hb'
          go_wp2
          go_ret
          exact ⟨rfl, HBF.out⟩
end Go.Proofs.YtellnklbkjajbaaDoor
