/- SignsDesigns: the walks -/
import Derived.Test.YtopmdmafameknaaDm
import Derived.Test.YtopmdmafameknaaDl
namespace Go.Proofs.Ytopmdmafameknaa
open Go.RowKit

theorem words_cells {w : World} {v : Value} {n : Nat} {a : List Nat} (hm : Mat n a) (h : Ints w v (wordsL n a)) : ∃ ao cap, v = .slice ao (2 * n) cap ∧ 2 * n ≤ cap ∧ ∀ k, k < 2 * n → ∃ b o, ao = some ⟨b, o, none⟩ ∧ w.cell? ⟨b, o + k, none⟩ = some (.int .i64 (wd n a k : Nat)) := by
  obtain ⟨ao, cap, hv, h1, _, hc⟩ := Ints.open h
  have hl : (wordsL n a).length = 2 * n := by rw [wordsL_length, hm.len]
  rw [hl] at hv h1 hc
  refine ⟨ao, cap, hv, h1, fun k hk => ?_⟩
  obtain ⟨b, o, e, hcc⟩ := hc k hk
  rw [(wd_lt hm k hk).2] at hcc
  exact ⟨b, o, e, hcc⟩
theorem dsg_cells {w : World} {v : Value} {n : Nat} {a : List Nat} (h : Nats w v (dsgL n a)) : ∃ ao cap, v = .slice ao (n - 1) cap ∧ n - 1 ≤ cap ∧ ∀ k, k < n - 1 → ∃ b o, ao = some ⟨b, o, none⟩ ∧ w.cell? ⟨b, o + k, none⟩ = some (.int .i64 (dsgR n ((normL n a).getD (k + 1) 0) : Nat)) := by
  obtain ⟨ao, cap, hv, h1, _, hc⟩ := Nats.open h
  rw [dsgL_length] at hv h1 hc
  refine ⟨ao, cap, hv, h1, fun k hk => ?_⟩
  obtain ⟨b, o, e, hcc⟩ := hc k hk
  rw [dsgL_get k hk] at hcc
  exact ⟨b, o, e, hcc⟩
theorem shr_zero {n x : Nat} (h : x < 2 ^ n) : (x:Int) / 2 ^ n = 0 := by
  rw [← pw_cast]; exact Int.ediv_eq_zero_of_lt (by omega) (by omega)

set_option maxHeartbeats 1000000 in
set_option maxRecDepth 100000 in
theorem sdes_bad (v : Value) (xs : List Int) (w : World) (h : Ints w v xs) (hs : matB 16 xs = false) :
    Calls Try.prog 13 #[v] w fun e w' => e = .returned (.bool true) ∧ Below w.heap.size w w' := by
  have HL := Lib.hid (fun w' (hb : Below w.heap.size w w') => list_any v xs w' (h.below hb (Nat.le_refl _)))
  have HDe := Lib.hid (fun v' w' (h' : Ints w' v' (xs.take 20)) => design_any v' (xs.take 20) w' h')
  have HWo := Lib.hid (fun v' w' (h' : Ints w' v' (xs.take 20)) => words_any sort_said v' (xs.take 20) w' h')
  have PD := Lib.hid (fun w w' e (h : DesignPost w (xs.take 20) e w') => design_none (fun h => by rw [matB_take 16 xs (Nat.le_refl _), hs] at h; cases h.1) h)
  have PW := Lib.hid (fun w w' e (h : WordsPost w (xs.take 20) e w') => words_none (by rw [matB_take 16 xs (Nat.le_refl _), hs]) h)
  clear h hs
  have HB0 := Lib.hid (Below.refl w.heap.size w)
  go_enter Try.func13, Try.ntmps13
  go_wp2_with fail
  refine (HL.out w HB0.out).mono ?_
  rintro e w1 ⟨v1, rfl, hv1, hb1⟩
  have HB1 := Lib.hid (HB0.out.trans (hb1.mono HB0.out.size))
  have A_1 := Lib.hid (hv1)
  clear hb1 hv1
  go_wp2_with fail
  refine (HDe.out v1 w1 A_1.out).mono ?_
  intro e w2 hq
  obtain ⟨rfl, hb2⟩ := PD.out _ _ _ hq
  have HB2 := Lib.hid (HB1.out.trans (hb2.mono HB1.out.size))
  have A_2 := Lib.hid (A_1.out.below hb2 (Nat.le_refl _))
  clear hb2
  clear hq
  clear A_2
  go_wp2_with fail
  refine (HL.out w2 HB2.out).mono ?_
  rintro e w3 ⟨v3, rfl, hv3, hb3⟩
  have HB3 := Lib.hid (HB2.out.trans (hb3.mono HB2.out.size))
  have A_3 := Lib.hid (hv3)
  clear hb3 hv3
  go_wp2_with fail
  refine (HWo.out v3 w3 A_3.out).mono ?_
  intro e w4 hq
  obtain ⟨rfl, hb4⟩ := PW.out _ _ _ hq
  have HB4 := Lib.hid (HB3.out.trans (hb4.mono HB3.out.size))
  have A_4 := Lib.hid (A_3.out.below hb4 (Nat.le_refl _))
  clear hb4
  clear hq
  clear A_4
  go_wp2_with fail
  refine (awake_any w4).mono ?_
  rintro e w5 ⟨rfl, hb5⟩
  have HB5 := Lib.hid (HB4.out.trans (hb5.mono HB4.out.size))
  clear hb5
  go_wp2
  go_ret
  exact ⟨rfl, HB5.out⟩

set_option maxHeartbeats 2000000 in
set_option maxRecDepth 100000 in
theorem sdes_lt_t (v : Value) (n : Nat) (a : List Nat) (w : World) (h : Nats w v a) (hm : Mat n a) (h4 : n < 4) (hok : balB n a = true) :
    Calls Try.prog 13 #[v] w fun e w' => e = .returned (.bool true) ∧ Below w.heap.size w w' := by
  have HL := Lib.hid (fun w' (hb : Below w.heap.size w w') => list_any v (nats a) w' (h.below hb (Nat.le_refl _)))
  rw [nats_take hm] at HL
  have HDe := Lib.hid (fun v' w' (h' : Ints w' v' (nats a)) => design_any v' (nats a) w' h')
  have HWo := Lib.hid (fun v' w' (h' : Ints w' v' (nats a)) => words_any sort_said v' (nats a) w' h')
  have hn16 := hm.le
  have hn1 := hm.pos
  have PD := Lib.hid (fun w w' e (h : DesignPost w (nats a) e w') => design_none (fun hh => by have := hh.2; rw [nats_length, hm.len] at this; omega) h)
  have PW := Lib.hid (fun w w' e (h : WordsPost w (nats a) e w') => words_fine hm hok h)
  have HCWo := Lib.hid (fun v w' (h : Ints w' v (wordsL n a)) => words_cells hm h)
  obtain ⟨m2, hm2⟩ : ∃ m, m = 2 * n := ⟨_, rfl⟩
  have HWl : Hid (∀ k, k < m2 → wd n a k < 2 ^ n) := fun k hk => (wd_lt hm k (by omega)).1
  have HWp : Hid (∀ i k, i < m2 → k < i → wd n a k < wd n a i ∧ (2 * pop n (wd n a i ^^^ wd n a k) = n ∨ pop n (wd n a i ^^^ wd n a k) = n)) := fun i k hi hk => wd_pair hm (of_decide_eq_true hok) i k (by omega) hk
  rw [← hm2] at HCWo
  have hlenW : ((m2:Int) != 2 * (n:Int)) = false := by simp; omega
  have hm2b : m2 ≤ 32 := by omega
  have hp16 := (pw_nat n hn16).2
  clear hm2
  obtain ⟨ao, cap, rfl, _, _⟩ := hm.open h
  clear h hm hok
  have HB0 := Lib.hid (Below.refl w.heap.size w)
  go_enter Try.func13, Try.ntmps13
  go_wp2_with fail
  refine (HL.out w HB0.out).mono ?_
  rintro e w1 ⟨v1, rfl, hv1, hb1⟩
  have HB1 := Lib.hid (HB0.out.trans (hb1.mono HB0.out.size))
  have A_1 := Lib.hid (hv1)
  clear hb1 hv1
  go_wp2_with fail
  refine (HDe.out v1 w1 A_1.out).mono ?_
  intro e w2 hq
  obtain ⟨rfl, hb2⟩ := PD.out _ _ _ hq
  have HB2 := Lib.hid (HB1.out.trans (hb2.mono HB1.out.size))
  have A_2 := Lib.hid (A_1.out.below hb2 (Nat.le_refl _))
  clear hb2
  clear hq
  clear A_2
  go_wp2_with fail
  refine (HL.out w2 HB2.out).mono ?_
  rintro e w3 ⟨v3, rfl, hv3, hb3⟩
  have HB3 := Lib.hid (HB2.out.trans (hb3.mono HB2.out.size))
  have A_3 := Lib.hid (hv3)
  clear hb3 hv3
  go_wp2_with fail
  refine (HWo.out v3 w3 A_3.out).mono ?_
  intro e w4 hq
  obtain ⟨v4, rfl, hv4, hb4⟩ := PW.out _ _ _ hq
  have HB4 := Lib.hid (HB3.out.trans (hb4.mono HB3.out.size))
  have A_4 := Lib.hid (A_3.out.below hb4 (Nat.le_refl _))
  have X_4 := Lib.hid (hv4)
  clear hv4
  clear hb4
  clear hq
  clear A_4
  obtain ⟨aoW, capW, hvW, hcapW, hcW⟩ := HCWo.out v4 w4 X_4.out
  subst hvW
  have HCW := Lib.hid hcW
  clear hcW HCWo
  clear X_4
  clear HL HDe HWo PD PW
  go_wp2_with fail
  go_loop [48] (fun i => ∃ k : Nat, k ≤ m2 ∧ i = .int .i64 k) (fun i => m2 - (intOf i).toNat)
  case atStart => exact ⟨0, Nat.zero_le _, rfl⟩
  case round =>
    obtain ⟨k, hk, rfl⟩ := hrel
    by_cases hlt : k < m2
    · obtain ⟨bW, oW, rfl, hcx⟩ := HCW.out k hlt
      have hxl := HWl.out k hlt
      have HPk := Lib.hid (fun l hl => HWp.out k l hlt hl)
      have hdv := shr_zero hxl
      have hkc : k ≤ capW := by omega
      generalize wd n a k = x at *
      go_wp2_with fail
      go_loop [57] (fun i => ∃ l : Nat, l ≤ k ∧ i = .int .i64 l) (fun i => k - (intOf i).toNat)
      case atStart => exact ⟨0, Nat.zero_le _, rfl⟩
      case round =>
        obtain ⟨l, hl, rfl⟩ := hrel
        by_cases hltl : l < k
        · obtain ⟨bW', oW', heq, hcy⟩ := HCW.out l (by omega)
          obtain ⟨rfl, rfl⟩ : bW = bW' ∧ oW = oW' := by simpa using heq
          have hyl := HWl.out l (by omega)
          obtain ⟨hyx, hpp⟩ := HPk.out l hltl
          generalize wd n a l = y at *
          have hxor := i64_xor x y (by omega) (by omega)
          have hzl := xor_lt hxl hyl
          have HSz := Lib.hid (size_n w4 hn16 hzl)
          have hz16 : x ^^^ y < 65536 := by omega
          have hpl := pop_le n (x ^^^ y)
          have hge : decide ((x:Int) ≤ (y:Int)) = false := by simp; omega
          obtain ⟨p, hpe⟩ : ∃ p, p = pop n (x ^^^ y) := ⟨_, rfl⟩
          rw [← hpe] at HSz hpp hpl
          clear hpe hzl heq
          generalize x ^^^ y = z at *
          rcases hpp with hpp | hpp
          · have hd : ((2 * (p:Int)) != (n:Int)) = false := by simp; omega
            clear hpp
            go_wp2_with fail
            refine HSz.out.mono ?_
            rintro e w' ⟨rfl, rfl⟩
            go_wp2
            go_round
            case rel => exact ⟨l + 1, by omega, by go_num⟩
            case measure => simp [intOf]; omega
          · have hd : ((2 * (p:Int)) != (n:Int)) = true := by simp; omega
            have hd2 : ((p:Int) != (n:Int)) = false := by simp; omega
            clear hpp
            go_wp2_with fail
            refine HSz.out.mono ?_
            rintro e w' ⟨rfl, rfl⟩
            go_wp2_with fail
            refine HSz.out.mono ?_
            rintro e w' ⟨rfl, rfl⟩
            go_wp2
            go_round
            case rel => exact ⟨l + 1, by omega, by go_num⟩
            case measure => simp [intOf]; omega
        · obtain rfl : l = k := by omega
          go_wp2
          go_round
          case rel => exact ⟨l + 1, by omega, by go_num⟩
          case measure => simp [intOf]; omega
    · obtain rfl : m2 = k := by omega
      clear HCW HWl HWp
      go_wp2_with fail
      refine (awake_any w4).mono ?_
      rintro e w5 ⟨rfl, hb5⟩
      have HB5 := Lib.hid (HB4.out.trans (hb5.mono HB4.out.size))
      clear hb5
      go_wp2
      go_ret
      exact ⟨rfl, HB5.out⟩

set_option maxHeartbeats 2000000 in
set_option maxRecDepth 100000 in
theorem sdes_lt_f (v : Value) (n : Nat) (a : List Nat) (w : World) (h : Nats w v a) (hm : Mat n a) (h4 : n < 4) (hok : balB n a = false) :
    Calls Try.prog 13 #[v] w fun e w' => e = .returned (.bool true) ∧ Below w.heap.size w w' := by
  have HL := Lib.hid (fun w' (hb : Below w.heap.size w w') => list_any v (nats a) w' (h.below hb (Nat.le_refl _)))
  rw [nats_take hm] at HL
  have HDe := Lib.hid (fun v' w' (h' : Ints w' v' (nats a)) => design_any v' (nats a) w' h')
  have HWo := Lib.hid (fun v' w' (h' : Ints w' v' (nats a)) => words_any sort_said v' (nats a) w' h')
  have hn16 := hm.le
  have hn1 := hm.pos
  have PD := Lib.hid (fun w w' e (h : DesignPost w (nats a) e w') => design_none (fun hh => by have := hh.2; rw [nats_length, hm.len] at this; omega) h)
  have PW := Lib.hid (fun w w' e (h : WordsPost w (nats a) e w') => words_not hm hok h)
  obtain ⟨ao, cap, rfl, _, _⟩ := hm.open h
  clear h hm hok
  have HB0 := Lib.hid (Below.refl w.heap.size w)
  go_enter Try.func13, Try.ntmps13
  go_wp2_with fail
  refine (HL.out w HB0.out).mono ?_
  rintro e w1 ⟨v1, rfl, hv1, hb1⟩
  have HB1 := Lib.hid (HB0.out.trans (hb1.mono HB0.out.size))
  have A_1 := Lib.hid (hv1)
  clear hb1 hv1
  go_wp2_with fail
  refine (HDe.out v1 w1 A_1.out).mono ?_
  intro e w2 hq
  obtain ⟨rfl, hb2⟩ := PD.out _ _ _ hq
  have HB2 := Lib.hid (HB1.out.trans (hb2.mono HB1.out.size))
  have A_2 := Lib.hid (A_1.out.below hb2 (Nat.le_refl _))
  clear hb2
  clear hq
  clear A_2
  go_wp2_with fail
  refine (HL.out w2 HB2.out).mono ?_
  rintro e w3 ⟨v3, rfl, hv3, hb3⟩
  have HB3 := Lib.hid (HB2.out.trans (hb3.mono HB2.out.size))
  have A_3 := Lib.hid (hv3)
  clear hb3 hv3
  go_wp2_with fail
  refine (HWo.out v3 w3 A_3.out).mono ?_
  intro e w4 hq
  obtain ⟨rfl, hb4⟩ := PW.out _ _ _ hq
  have HB4 := Lib.hid (HB3.out.trans (hb4.mono HB3.out.size))
  have A_4 := Lib.hid (A_3.out.below hb4 (Nat.le_refl _))
  clear hb4
  clear hq
  clear A_4
  go_wp2_with fail
  refine (awake_any w4).mono ?_
  rintro e w5 ⟨rfl, hb5⟩
  have HB5 := Lib.hid (HB4.out.trans (hb5.mono HB4.out.size))
  clear hb5
  go_wp2
  go_ret
  exact ⟨rfl, HB5.out⟩

set_option maxHeartbeats 2000000 in
set_option maxRecDepth 100000 in
theorem sdes_ge_f (v : Value) (n : Nat) (a : List Nat) (w : World) (h : Nats w v a) (hm : Mat n a) (h4 : 4 ≤ n) (hok : balB n a = false) :
    Calls Try.prog 13 #[v] w fun e w' => e = .returned (.bool true) ∧ Below w.heap.size w w' := by
  have HL := Lib.hid (fun w' (hb : Below w.heap.size w w') => list_any v (nats a) w' (h.below hb (Nat.le_refl _)))
  rw [nats_take hm] at HL
  have HDe := Lib.hid (fun v' w' (h' : Ints w' v' (nats a)) => design_any v' (nats a) w' h')
  have HWo := Lib.hid (fun v' w' (h' : Ints w' v' (nats a)) => words_any sort_said v' (nats a) w' h')
  have hn16 := hm.le
  have hn1 := hm.pos
  have PD := Lib.hid (fun w w' e (h : DesignPost w (nats a) e w') => design_not hm h4 hok h)
  have PW := Lib.hid (fun w w' e (h : WordsPost w (nats a) e w') => words_not hm hok h)
  obtain ⟨ao, cap, rfl, _, _⟩ := hm.open h
  clear h hm hok
  have HB0 := Lib.hid (Below.refl w.heap.size w)
  go_enter Try.func13, Try.ntmps13
  go_wp2_with fail
  refine (HL.out w HB0.out).mono ?_
  rintro e w1 ⟨v1, rfl, hv1, hb1⟩
  have HB1 := Lib.hid (HB0.out.trans (hb1.mono HB0.out.size))
  have A_1 := Lib.hid (hv1)
  clear hb1 hv1
  go_wp2_with fail
  refine (HDe.out v1 w1 A_1.out).mono ?_
  intro e w2 hq
  obtain ⟨rfl, hb2⟩ := PD.out _ _ _ hq
  have HB2 := Lib.hid (HB1.out.trans (hb2.mono HB1.out.size))
  have A_2 := Lib.hid (A_1.out.below hb2 (Nat.le_refl _))
  clear hb2
  clear hq
  clear A_2
  go_wp2_with fail
  refine (HL.out w2 HB2.out).mono ?_
  rintro e w3 ⟨v3, rfl, hv3, hb3⟩
  have HB3 := Lib.hid (HB2.out.trans (hb3.mono HB2.out.size))
  have A_3 := Lib.hid (hv3)
  clear hb3 hv3
  go_wp2_with fail
  refine (HWo.out v3 w3 A_3.out).mono ?_
  intro e w4 hq
  obtain ⟨rfl, hb4⟩ := PW.out _ _ _ hq
  have HB4 := Lib.hid (HB3.out.trans (hb4.mono HB3.out.size))
  have A_4 := Lib.hid (A_3.out.below hb4 (Nat.le_refl _))
  clear hb4
  clear hq
  clear A_4
  go_wp2_with fail
  refine (awake_any w4).mono ?_
  rintro e w5 ⟨rfl, hb5⟩
  have HB5 := Lib.hid (HB4.out.trans (hb5.mono HB4.out.size))
  clear hb5
  go_wp2
  go_ret
  exact ⟨rfl, HB5.out⟩

set_option maxHeartbeats 2000000 in
set_option maxRecDepth 100000 in
theorem sdes_ge_t (v : Value) (n : Nat) (a : List Nat) (w : World) (h : Nats w v a) (hm : Mat n a) (h4 : 4 ≤ n) (hok : balB n a = true) :
    Calls Try.prog 13 #[v] w fun e w' => e = .returned (.bool true) ∧ Below w.heap.size w w' := by
  have HL := Lib.hid (fun w' (hb : Below w.heap.size w w') => list_any v (nats a) w' (h.below hb (Nat.le_refl _)))
  rw [nats_take hm] at HL
  have HDe := Lib.hid (fun v' w' (h' : Ints w' v' (nats a)) => design_any v' (nats a) w' h')
  have HWo := Lib.hid (fun v' w' (h' : Ints w' v' (nats a)) => words_any sort_said v' (nats a) w' h')
  have hn16 := hm.le
  have hn1 := hm.pos
  have PD := Lib.hid (fun w w' e (h : DesignPost w (nats a) e w') => design_fine hm h4 hok h)
  have hnor := nor_norm hm (of_decide_eq_true hok)
  have hf4 : n % 4 = 0 := bal_four (of_decide_eq_true hok) (by omega)
  have hmod : (n:Int) % 4 = 0 := by omega
  have hmodt : (n:Int).tmod 4 = 0 := by rw [Int.tmod_eq_emod_of_nonneg (by omega)]; exact hmod
  have HCDe := Lib.hid (fun v w' (h : Nats w' v (dsgL n a)) => dsg_cells h)
  obtain ⟨d1, hd1⟩ : ∃ d, d = n - 1 := ⟨_, rfl⟩
  have HDl : Hid (∀ k, k < d1 → dsgR n ((normL n a).getD (k + 1) 0) < 2 ^ d1) := fun k hk => by rw [hd1]; exact dsgR_lt (hnor.mat.get _) hn1
  have HDp : Hid (∀ k, k < d1 → pop d1 (dsgR n ((normL n a).getD (k + 1) 0)) + 1 = n / 2) := fun k hk => by rw [hd1]; exact dsg_pop hnor (k + 1) (by omega) (by omega)
  have HDq : Hid (∀ k l, k < d1 → l < k → pop d1 (dsgR n ((normL n a).getD (k + 1) 0) &&& dsgR n ((normL n a).getD (l + 1) 0)) + 1 = n / 4) := fun k l hk hl => by rw [hd1]; exact dsg_pair hnor (k + 1) (l + 1) (by omega) (by omega) (by omega)
  have HCo : Hid (∀ k l, k < d1 → l < k → pop d1 (dsgR n ((overL n (normL n a)).getD (k + 1) 0) &&& dsgR n ((overL n (normL n a)).getD (l + 1) 0)) + 1 = n / 4) := fun k l hk hl => by rw [hd1]; exact dsg_pair (nor_over hnor) (k + 1) (l + 1) (by omega) (by omega) (by omega)
  have HCb : Hid (∀ k l q, k < d1 → l < k → q < d1 → (dsgR n ((overL n (normL n a)).getD (k + 1) 0) &&& dsgR n ((overL n (normL n a)).getD (l + 1) 0)).testBit q = ((dsgR n ((normL n a).getD (q + 1) 0)).testBit k && (dsgR n ((normL n a).getD (q + 1) 0)).testBit l)) := fun k l q hk hl hq => by
    rw [Nat.testBit_and, dsg_col k q (by omega) (by omega), dsg_col l q (by omega) (by omega)]
  rw [← hd1] at HCDe
  have hidx : ((n:Int) - 1).toNat = d1 := by omega
  have hnd : (n:Int) - 1 = d1 := by omega
  have hd16 : d1 ≤ 16 := by omega
  have hpd := wrap_pw d1 hd16
  have hpd16 := (pw_nat d1 hd16).2
  have hlenD : ((d1:Int) != (d1:Int)) = false := by simp
  have hf2 : 2 ≤ n / 2 ∧ 1 ≤ n / 4 := by omega
  have PW := Lib.hid (fun w w' e (h : WordsPost w (nats a) e w') => words_fine hm hok h)
  have HCWo := Lib.hid (fun v w' (h : Ints w' v (wordsL n a)) => words_cells hm h)
  obtain ⟨m2, hm2⟩ : ∃ m, m = 2 * n := ⟨_, rfl⟩
  have HWl : Hid (∀ k, k < m2 → wd n a k < 2 ^ n) := fun k hk => (wd_lt hm k (by omega)).1
  have HWp : Hid (∀ i k, i < m2 → k < i → wd n a k < wd n a i ∧ (2 * pop n (wd n a i ^^^ wd n a k) = n ∨ pop n (wd n a i ^^^ wd n a k) = n)) := fun i k hi hk => wd_pair hm (of_decide_eq_true hok) i k (by omega) hk
  rw [← hm2] at HCWo
  have hlenW : ((m2:Int) != 2 * (n:Int)) = false := by simp; omega
  have hm2b : m2 ≤ 32 := by omega
  have hp16 := (pw_nat n hn16).2
  clear hm2
  obtain ⟨ao, cap, rfl, _, _⟩ := hm.open h
  clear h hm hok hnor hd1 hf4
  have HB0 := Lib.hid (Below.refl w.heap.size w)
  go_enter Try.func13, Try.ntmps13
  go_wp2_with fail
  refine (HL.out w HB0.out).mono ?_
  rintro e w1 ⟨v1, rfl, hv1, hb1⟩
  have HB1 := Lib.hid (HB0.out.trans (hb1.mono HB0.out.size))
  have A_1 := Lib.hid (hv1)
  clear hb1 hv1
  go_wp2_with fail
  refine (HDe.out v1 w1 A_1.out).mono ?_
  intro e w2 hq
  obtain ⟨v2, rfl, hv2, hb2⟩ := PD.out _ _ _ hq
  have HB2 := Lib.hid (HB1.out.trans (hb2.mono HB1.out.size))
  have A_2 := Lib.hid (A_1.out.below hb2 (Nat.le_refl _))
  have D_2 := Lib.hid (hv2)
  clear hv2
  clear hb2
  clear hq
  clear A_2
  go_wp2_with fail
  refine (HL.out w2 HB2.out).mono ?_
  rintro e w3 ⟨v3, rfl, hv3, hb3⟩
  have HB3 := Lib.hid (HB2.out.trans (hb3.mono HB2.out.size))
  have D_3 := Lib.hid (D_2.out.below hb3 (Nat.le_refl _))
  have A_3 := Lib.hid (hv3)
  clear hb3 hv3
  go_wp2_with fail
  refine (HWo.out v3 w3 A_3.out).mono ?_
  intro e w4 hq
  obtain ⟨v4, rfl, hv4, hb4⟩ := PW.out _ _ _ hq
  have HB4 := Lib.hid (HB3.out.trans (hb4.mono HB3.out.size))
  have D_4 := Lib.hid (D_3.out.below hb4 (Nat.le_refl _))
  have A_4 := Lib.hid (A_3.out.below hb4 (Nat.le_refl _))
  have X_4 := Lib.hid (hv4)
  clear hv4
  clear hb4
  clear hq
  clear A_4
  obtain ⟨aoW, capW, hvW, hcapW, hcW⟩ := HCWo.out v4 w4 X_4.out
  subst hvW
  have HCW := Lib.hid hcW
  clear hcW HCWo
  clear X_4
  obtain ⟨aoD, capD, hvD, hcapD, hcD⟩ := HCDe.out v2 w4 D_4.out
  subst hvD
  have HCD := Lib.hid hcD
  clear hcD HCDe
  clear D_4
  clear HL HDe HWo PD PW
  go_wp2_with fail
  go_loop [48] (fun i => ∃ k : Nat, k ≤ m2 ∧ i = .int .i64 k) (fun i => m2 - (intOf i).toNat)
  case atStart => exact ⟨0, Nat.zero_le _, rfl⟩
  case round =>
    obtain ⟨k, hk, rfl⟩ := hrel
    by_cases hlt : k < m2
    · obtain ⟨bW, oW, rfl, hcx⟩ := HCW.out k hlt
      have hxl := HWl.out k hlt
      have HPk := Lib.hid (fun l hl => HWp.out k l hlt hl)
      have hdv := shr_zero hxl
      have hkc : k ≤ capW := by omega
      generalize wd n a k = x at *
      go_wp2_with fail
      go_loop [57] (fun i => ∃ l : Nat, l ≤ k ∧ i = .int .i64 l) (fun i => k - (intOf i).toNat)
      case atStart => exact ⟨0, Nat.zero_le _, rfl⟩
      case round =>
        obtain ⟨l, hl, rfl⟩ := hrel
        by_cases hltl : l < k
        · obtain ⟨bW', oW', heq, hcy⟩ := HCW.out l (by omega)
          obtain ⟨rfl, rfl⟩ : bW = bW' ∧ oW = oW' := by simpa using heq
          have hyl := HWl.out l (by omega)
          obtain ⟨hyx, hpp⟩ := HPk.out l hltl
          generalize wd n a l = y at *
          have hxor := i64_xor x y (by omega) (by omega)
          have hzl := xor_lt hxl hyl
          have HSz := Lib.hid (size_n w4 hn16 hzl)
          have hz16 : x ^^^ y < 65536 := by omega
          have hpl := pop_le n (x ^^^ y)
          have hge : decide ((x:Int) ≤ (y:Int)) = false := by simp; omega
          obtain ⟨p, hpe⟩ : ∃ p, p = pop n (x ^^^ y) := ⟨_, rfl⟩
          rw [← hpe] at HSz hpp hpl
          clear hpe hzl heq
          generalize x ^^^ y = z at *
          rcases hpp with hpp | hpp
          · have hd : ((2 * (p:Int)) != (n:Int)) = false := by simp; omega
            clear hpp
            go_wp2_with fail
            refine HSz.out.mono ?_
            rintro e w' ⟨rfl, rfl⟩
            go_wp2
            go_round
            case rel => exact ⟨l + 1, by omega, by go_num⟩
            case measure => simp [intOf]; omega
          · have hd : ((2 * (p:Int)) != (n:Int)) = true := by simp; omega
            have hd2 : ((p:Int) != (n:Int)) = false := by simp; omega
            clear hpp
            go_wp2_with fail
            refine HSz.out.mono ?_
            rintro e w' ⟨rfl, rfl⟩
            go_wp2_with fail
            refine HSz.out.mono ?_
            rintro e w' ⟨rfl, rfl⟩
            go_wp2
            go_round
            case rel => exact ⟨l + 1, by omega, by go_num⟩
            case measure => simp [intOf]; omega
        · obtain rfl : l = k := by omega
          go_wp2
          go_round
          case rel => exact ⟨l + 1, by omega, by go_num⟩
          case measure => simp [intOf]; omega
    · obtain rfl : m2 = k := by omega
      clear HCW HWl HWp
      go_wp2_with fail
      go_loop [137] (fun i => ∃ k : Nat, k ≤ d1 ∧ i = .int .i64 k) (fun i => d1 - (intOf i).toNat)
      case atStart => exact ⟨0, Nat.zero_le _, rfl⟩
      case round =>
        obtain ⟨k, hk, rfl⟩ := hrel
        by_cases hlt : k < d1
        · obtain ⟨bD, oD, rfl, hcx⟩ := HCD.out k hlt
          have hxl := HDl.out k hlt
          have hsz := HDp.out k hlt
          have HPk := Lib.hid (fun l hl => HDq.out k l hlt hl)
          have hkc : k ≤ capD := by omega
          generalize dsgR n ((normL n a).getD (k + 1) 0) = x at *
          have HSz := Lib.hid (size_n w4 hd16 hxl)
          have hpl := pop_le d1 x
          have hge : decide ((2:Int) ^ d1 ≤ (x:Int)) = false := by have := pw_cast d1; simp; omega
          obtain ⟨p, hpe⟩ : ∃ p, p = pop d1 x := ⟨_, rfl⟩
          rw [← hpe] at HSz hsz hpl
          have hdp : ((p:Int) != (n:Int) / 2 - 1) = false := by simp; omega
          clear hpe
          go_wp2_with fail
          refine HSz.out.mono ?_
          rintro e w' ⟨rfl, rfl⟩
          go_wp2_with fail
          go_loop [163] (fun i => ∃ l : Nat, l ≤ k ∧ i = .int .i64 l) (fun i => k - (intOf i).toNat)
          case atStart => exact ⟨0, Nat.zero_le _, rfl⟩
          case round =>
            obtain ⟨l, hl, rfl⟩ := hrel
            by_cases hltl : l < k
            · obtain ⟨bD', oD', heq, hcy⟩ := HCD.out l (by omega)
              obtain ⟨rfl, rfl⟩ : bD = bD' ∧ oD = oD' := by simpa using heq
              have hyl := HDl.out l (by omega)
              have hpp := HPk.out l hltl
              generalize dsgR n ((normL n a).getD (l + 1) 0) = y at *
              have hand := i64_and x y (by omega) (by omega)
              have hzl : x &&& y < 2 ^ d1 := Nat.and_lt_two_pow _ hyl
              have HSy := Lib.hid (size_n w4 hd16 hzl)
              have hpy := pop_le d1 (x &&& y)
              obtain ⟨q, hqe⟩ : ∃ q, q = pop d1 (x &&& y) := ⟨_, rfl⟩
              rw [← hqe] at HSy hpp hpy
              have hdq : ((q:Int) != (n:Int) / 4 - 1) = false := by simp; omega
              clear hqe heq hzl
              generalize x &&& y = z at *
              go_wp2_with fail
              refine HSy.out.mono ?_
              rintro e w' ⟨rfl, rfl⟩
              go_wp2
              go_round
              case rel => exact ⟨l + 1, by omega, by go_num⟩
              case measure => simp [intOf]; omega
            · obtain rfl : l = k := by omega
              go_wp2
              go_round
              case rel => exact ⟨l + 1, by omega, by go_num⟩
              case measure => simp [intOf]; omega
        · obtain rfl : d1 = k := by omega
          clear HDp HDq
          go_wp2_with fail
          go_loopw [179] (fun i wr => ∃ k : Nat, k ≤ d1 ∧ i = .int .i64 k ∧ Below w4.heap.size w4 wr) (fun i _ => d1 - (intOf i).toNat)
          case atStart => exact ⟨0, Nat.zero_le _, rfl, Below.refl _ _⟩
          case round =>
            obtain ⟨ca, hca, rfl, hb⟩ := hrel
            have HBa := Lib.hid hb
            clear hb
            by_cases hlta : ca < d1
            · go_wp2_with fail
              go_loopw [183] (fun i wr => ∃ k : Nat, k ≤ ca ∧ i = .int .i64 k ∧ Below w4.heap.size w4 wr) (fun i _ => ca - (intOf i).toNat)
              case atStart => exact ⟨0, Nat.zero_le _, rfl, HBa.out⟩
              case round =>
                clear HBa
                obtain ⟨cb, hcb, rfl, hb⟩ := hrel
                have HBb := Lib.hid hb
                clear hb
                by_cases hltb : cb < ca
                · have hfin := HCo.out ca cb hlta hltb
                  have HCB := Lib.hid (fun q hq => HCb.out ca cb q hlta hltb hq)
                  generalize (dsgR n ((overL n (normL n a)).getD (ca + 1) 0) &&& dsgR n ((overL n (normL n a)).getD (cb + 1) 0)) = AB at *
                  go_wp2_with fail
                  go_loopw [18, 188] (fun s i wr => ∃ q : Nat, q ≤ d1 ∧ i = .int .i64 q ∧ s = .int .i64 (pop q AB) ∧ Below w4.heap.size w4 wr) (fun _ i _ => d1 - (intOf i).toNat)
                  case atStart => exact ⟨0, Nat.zero_le _, rfl, rfl, HBb.out⟩
                  case round =>
                    clear HBb
                    obtain ⟨q, hq, rfl, rfl, hb⟩ := hrel
                    have HBq := Lib.hid hb
                    clear hb
                    have hpq := pop_le q AB
                    by_cases hltq : q < d1
                    · obtain ⟨bD, oD, rfl, hcx⟩ := HCD.out q hltq
                      have hcx' := ck hcx HBq.out
                      have hxl := HDl.out q hltq
                      have hcbq := HCB.out q hltq
                      have HPo : Hid (pop (q + 1) AB = pop q AB + (AB.testBit q).toNat) := rfl
                      generalize dsgR n ((normL n a).getD (q + 1) 0) = x at *
                      have ea := bit_and1 x ca (by omega)
                      have eb := bit_and1 x cb (by omega)
                      have hq3 : (((x.testBit ca).toNat : Nat) : Int) * (((x.testBit cb).toNat : Nat) : Int) = (((AB.testBit q).toNat : Nat) : Int) := by
                        rw [hcbq]; cases x.testBit ca <;> cases x.testBit cb <;> rfl
                      have hl3 := Bool.toNat_le (AB.testBit q)
                      obtain ⟨t, ht⟩ : ∃ t : Int, t = (pop q AB : Int) := ⟨_, rfl⟩
                      have HPn : Hid (((pop (q + 1) AB : Nat) : Int) = t + ((AB.testBit q).toNat : Nat)) := (show _ = _ by rw [HPo.out, ht]; simp)
                      rw [← ht]
                      have htb : 0 ≤ t ∧ t ≤ 16 := by omega
                      clear ht HPo hcx hcbq
                      generalize hp3 : (((AB.testBit q).toNat : Nat) : Int) = p3 at *
                      have hp3b : 0 ≤ p3 ∧ p3 ≤ 1 := by omega
                      clear hp3 hl3
                      generalize (((x.testBit ca).toNat : Nat) : Int) = p1 at *
                      generalize (((x.testBit cb).toNat : Nat) : Int) = p2 at *
                      have e1 : IntKind.i64.wrap p3 = p3 := IntWalk.i64_in _ (by omega)
                      have e2 : IntKind.i64.wrap (t + p3) = t + p3 := IntWalk.i64_in _ (by omega)
                      go_wp2_with fail
                      go_quiet (fail)
                      go_wp2
                      go_roundw
                      case rel => exact ⟨q + 1, by omega, by go_num, by rw [HPn.out], below_drewN HBq.out _⟩
                      case measure => simp [intOf]; omega
                    · obtain rfl : d1 = q := by omega
                      generalize pop d1 AB = s at *
                      have hds : ((s:Int) != (n:Int) / 4 - 1) = false := by simp; omega
                      go_wp2
                      go_roundw
                      case rel => exact ⟨cb + 1, by omega, by go_num, HBq.out⟩
                      case measure => simp [intOf]; omega
                · obtain rfl : cb = ca := by omega
                  go_wp2
                  go_roundw
                  case rel => exact ⟨cb + 1, by omega, by go_num, HBb.out⟩
                  case measure => simp [intOf]; omega
            · obtain rfl : d1 = ca := by omega
              have HBE := Lib.hid (HB4.out.trans (HBa.out.mono HB4.out.size))
              go_wp2_with fail
              refine (awake_any _).mono ?_
              rintro e wz ⟨rfl, hbz⟩
              have HBZ := Lib.hid (HBE.out.trans (hbz.mono HBE.out.size))
              clear hbz
              go_wp2
              go_ret
              exact ⟨rfl, HBZ.out⟩

theorem signsDesigns_law (v : Value) (xs : List Int) (w : World) (h : Ints w v xs) :
    Calls Try.prog 13 #[v] w fun e w' => e = .returned (.bool true) ∧ Below w.heap.size w w' := by
  cases hs : matB 16 xs with
  | false => exact sdes_bad v xs w h hs
  | true =>
    obtain ⟨a, n, rfl, hm, _, _⟩ := matB_of' (Nat.le_refl _) hs
    by_cases h4 : n < 4
    · cases hok : balB n a with
      | true => exact sdes_lt_t v n a w h hm h4 hok
      | false => exact sdes_lt_f v n a w h hm h4 hok
    · cases hok : balB n a with
      | true => exact sdes_ge_t v n a w h hm (by omega) hok
      | false => exact sdes_ge_f v n a w h hm (by omega) hok
end Go.Proofs.Ytopmdmafameknaa
