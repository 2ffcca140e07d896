/- fits, the reference's Free; CapsCaps: the walk -/
import Derived.Test.YtlalfjkenkmojaaL3
namespace Go.Proofs.Ytlalfjkenkmojaa
open Go.RowKit

set_option maxHeartbeats 4000000 in
theorem fits_any (d x : Nat) (v : Value) (l : List Nat) (w : World) (hd : d ≤ 4) (hl : ∀ y ∈ l, y ≤ 81) (hlen : l.length ≤ 81) (h : Nats w v l) :
    Calls Try.prog 68 #[.int .i64 d, v, .int .i64 x] w fun e w' => e = .returned (.bool (fitsB d l x)) ∧ Below w.heap.size w w' := by
  obtain ⟨ao, cap, rfl, h1, h2, hx⟩ := h.open
  have HX := Lib.hid hx
  have HBd := Lib.hid hl
  have HT := Lib.hid (fun a b w (ha : a ≤ 81) (hb : b ≤ 81) => rThird_any d a b w hd ha hb)
  have HI := Lib.hid (fitsB_iff d l x)
  have HNo := Lib.hid (fun (hn : ¬ ∀ i, i < l.length → l.getD i 0 ≠ x ∧ ∀ j, j < i → thirdN d (l.getD i 0) (l.getD j 0) ≠ x) => show fitsB d l x = false by
    cases hf : fitsB d l x with
    | false => rfl
    | true => exact absurd (HI.out.1 hf) hn)
  clear h hx hl
  go_enter Try.func68, Try.ntmps68
  go_wp2_with fail
  go_loopw [13] (fun i wr => ∃ k : Nat, k ≤ l.length ∧ i = .int .i64 k ∧ (∀ i, i < k → l.getD i 0 ≠ x ∧ ∀ j, j < i → thirdN d (l.getD i 0) (l.getD j 0) ≠ x) ∧ Below w.heap.size w wr) (fun i _ => l.length - (intOf i).toNat)
  case atStart => exact ⟨0, Nat.zero_le _, rfl, fun i hi => absurd hi (by omega), Below.refl _ _⟩
  case round =>
    obtain ⟨k, hk, rfl, hall, hb⟩ := hrel
    have HA := Lib.hid hall
    have HB := Lib.hid hb
    clear hall hb
    by_cases hlt : k < l.length
    · obtain ⟨b, o, rfl, hck⟩ := HX.out k hlt
      have hck' := ck hck HB.out
      have hz := HBd.out _ (natD_mem hlt)
      clear hck
      by_cases hzx : l.getD k 0 = x
      · have HF := Lib.hid (HNo.out fun hh => (hh k hlt).1 hzx)
        have hbt : (((l.getD k 0 : Nat) : Int) == (x:Int)) = true := by simp only [hzx]; simp
        clear hzx
        generalize l.getD k 0 = z at *
        go_wp2
        go_ret
        exact ⟨ret_bool HF.out.symm, HB.out⟩
      · have hbt : (((l.getD k 0 : Nat) : Int) == (x:Int)) = false := beq_eq_false_iff_ne.2 (by omega)
        have HNo1 := Lib.hid (fun j (hj : j < k) (e : thirdN d (l.getD k 0) (l.getD j 0) = x) => HNo.out fun hh => (hh k hlt).2 j hj e)
        have HA1 := Lib.hid (fun (hh : ∀ j, j < k → thirdN d (l.getD k 0) (l.getD j 0) ≠ x) (i : Nat) (hi : i < k + 1) => (show l.getD i 0 ≠ x ∧ ∀ j, j < i → thirdN d (l.getD i 0) (l.getD j 0) ≠ x by
          by_cases e : i = k
          · subst e; exact ⟨hzx, hh⟩
          · exact HA.out i (by omega)))
        clear hzx
        generalize l.getD k 0 = z at *
        go_wp2_with fail
        go_loopw [25] (fun i wr => ∃ j : Nat, j ≤ k ∧ i = .int .i64 j ∧ (∀ i, i < j → thirdN d z (l.getD i 0) ≠ x) ∧ Below w.heap.size w wr) (fun i _ => k - (intOf i).toNat)
        case atStart => exact ⟨0, Nat.zero_le _, rfl, fun i hi => absurd hi (by omega), HB.out⟩
        case round =>
          clear HB hck'
          obtain ⟨j, hj, rfl, hall, hb⟩ := hrel
          have HA2 := Lib.hid hall
          have HB := Lib.hid hb
          clear hall hb
          by_cases hjk : j < k
          · obtain ⟨b', o', he, hcj⟩ := HX.out j (by omega)
            simp only [Option.some.injEq, Addr.mk.injEq] at he
            obtain ⟨rfl, rfl, _⟩ := he
            have hcj' := ck hcj HB.out
            have hy := HBd.out _ (natD_mem (show j < l.length by omega))
            have HT1 := Lib.hid (HT.out z (l.getD j 0) wr hz hy)
            clear hcj
            by_cases htx : thirdN d z (l.getD j 0) = x
            · have HF := Lib.hid (HNo1.out j hjk htx)
              have hbt2 : (((thirdN d z (l.getD j 0) : Nat) : Int) == (x:Int)) = true := by simp only [htx]; simp
              clear htx
              generalize thirdN d z (l.getD j 0) = t at *
              generalize l.getD j 0 = y at *
              go_wp2_with fail
              refine HT1.out.mono ?_
              rintro e w1 ⟨rfl, hb1⟩
              have HB1 := Lib.hid (HB.out.trans ((drew_below hb1).mono HB.out.size))
              clear hb1
              go_wp2
              go_ret
              exact ⟨ret_bool HF.out.symm, HB1.out⟩
            · have hbt2 : (((thirdN d z (l.getD j 0) : Nat) : Int) == (x:Int)) = false := beq_eq_false_iff_ne.2 (by omega)
              have HA3 := Lib.hid (fun (i : Nat) (hi : i < j + 1) => if e : i = j then (e ▸ htx : thirdN d z (l.getD i 0) ≠ x) else HA2.out i (by omega))
              clear htx
              generalize thirdN d z (l.getD j 0) = t at *
              generalize l.getD j 0 = y at *
              go_wp2_with fail
              refine HT1.out.mono ?_
              rintro e w1 ⟨rfl, hb1⟩
              have HB1 := Lib.hid (HB.out.trans ((drew_below hb1).mono HB.out.size))
              clear hb1
              go_wp2
              go_roundw
              case rel => exact ⟨j + 1, by omega, by go_num, HA3.out, HB1.out⟩
              case measure => simp [intOf]; omega
          · obtain rfl : j = k := by omega
            have HA3 := Lib.hid (HA1.out HA2.out)
            go_wp2
            go_roundw
            case rel => exact ⟨j + 1, by omega, by go_num, HA3.out, HB.out⟩
            case measure => simp [intOf]; omega
    · obtain rfl : k = l.length := by omega
      have HF := Lib.hid (HI.out.2 HA.out)
      go_wp2
      go_ret
      exact ⟨ret_bool HF.out.symm, HB.out⟩

set_option maxHeartbeats 2000000 in
theorem rFree_any (d : Nat) (v : Value) (l : List Nat) (w : World) (h1 : 1 ≤ d) (hd : d ≤ 4) (hk : Deck d l) (h : Nats w v l) :
    Calls Try.prog 29 #[.int .i64 d, v] w fun e w' => ∃ v', e = .returned v' ∧ Nats w' v' (freeL d l) ∧ Below w.heap.size w w' := by
  have HS := Lib.hid (rSize_any d w)
  rw [(sizeI_dim rfl h1 hd).2] at HS
  have hp := p3 d hd
  have HF := Lib.hid (fun x w' (hb : Below w.heap.size w w') => fits_any d x v l w' hd (hk.bd hd) (hk.len hd) (h.below hb (Nat.le_refl _)))
  have HM := Lib.hid (fun x (hx : x < 3 ^ d) => fits_may d l x hk.2 hx)
  obtain ⟨ns, hns⟩ : ∃ ns, ns = List.range' 0 (3 ^ d) := ⟨_, rfl⟩
  have HNl : Hid (ns.length = 3 ^ d) := Lib.hid (by rw [hns, List.length_range'])
  have HNg : Hid (∀ k, k < 3 ^ d → ns.getD k 0 = k) := Lib.hid fun k hk => by rw [hns]; simp [hk]
  have HFr : Hid (ns.filter (mayB d l) = freeL d l) := Lib.hid (by rw [hns]; rfl)
  have HFb : Hid ((freeL d l).length ≤ 17592186044416 ∧ ∀ x ∈ freeL d l, x < 65536) := Lib.hid ⟨by have := freeL_len d l hd; omega, fun x hx => by have := freeL_bd d l x hx; omega⟩
  obtain ⟨i0, hi, hz0, hz1, hz2⟩ := info_parts Try.info3
  clear h hk hns
  generalize freeL d l = fs at *
  generalize 3 ^ d = s at *
  go_enter Try.func29, Try.ntmps29
  go_wp2_with fail
  refine HS.out.mono ?_
  rintro e w' ⟨rfl, rfl⟩
  clear HS
  go_wp2_with fail
  go_loopw [5, 9] (fun u i wr => ∃ k : Nat, k ≤ s ∧ i = .int .i64 k ∧ wr.ownsRow w.heap.size 3 1 u ((ns.take k).filter (mayB d l)).length (ints (nats ((ns.take k).filter (mayB d l)))) ∧ Below w.heap.size w wr) (fun _ i _ => s - (intOf i).toNat)
  case atStart => exact ⟨0, Nat.zero_le _, rfl, World.ownsRow_nil _ _ _ _, Below.refl _ _⟩
  case round =>
    obtain ⟨k, hk, rfl, hO, hb⟩ := hrel
    have HO := Lib.hid hO
    have HB := Lib.hid hb
    obtain ⟨ao', c', rfl⟩ := owns_form hO
    clear hO hb
    by_cases hlt : k < s
    · have HF1 := Lib.hid (HF.out k wr HB.out)
      have HS := Lib.hid (filter_snoc (g := mayB d l) (l := ns) (k := k) (by rw [HNl.out]; exact hlt))
      rw [HNg.out k hlt] at HS
      rw [HM.out k hlt] at HF1
      have hfl := filter_len (g := mayB d l) (l := ns) (k := k)
      cases hh : mayB d l k with
      | true =>
        rw [hh] at HF1 HS
        rw [if_pos rfl] at HS
        clear hh
        go_wp2_with fail
        refine HF1.out.mono ?_
        rintro e w1 ⟨rfl, hb1⟩
        have HB1 := Lib.hid (HB.out.trans (hb1.mono HB.out.size))
        have HO1 := Lib.hid (owns_below HO.out hb1 (Nat.le_refl _))
        clear hb1
        generalize (ns.take k).filter (mayB d l) = tp at *
        go_wp2_with (at_builtin; refine wpList_append_own _ rfl _ _ 22 rfl w.heap.size 3 i0 (.int .i64 0) 1 8 Try.underlying22 hi hz0 hz1 hz2 rfl (by decide) _ _ _ rfl (HO1.out.alloc _) ⟨w1.heap.size, 0, none⟩ 1 1 [.int .i64 k] rfl rfl (newOne _ _ _) (oneInt _) (by unfold maxLen; omega) (by omega) (by have := HB1.out.size; simp; omega) ?_)
        intro v' w2 hown' hgrow _
        have HR := Lib.hid (nat_step HO1.out HB1.out HB1.out.size hown' hgrow)
        clear hown' hgrow
        go_wp2
        go_roundw
        case rel => exact ⟨k + 1, by omega, by go_num, by rw [HS.out]; exact HR.out.1, HR.out.2⟩
        case measure => simp [intOf]; omega
      | false =>
        rw [hh] at HF1 HS
        simp only [Bool.false_eq_true, if_false, List.append_nil] at HS
        clear hh
        go_wp2_with fail
        refine HF1.out.mono ?_
        rintro e w1 ⟨rfl, hb1⟩
        have HB1 := Lib.hid (HB.out.trans (hb1.mono HB.out.size))
        have HO1 := Lib.hid (owns_below HO.out hb1 (Nat.le_refl _))
        clear hb1
        go_wp2
        go_roundw
        case rel => exact ⟨k + 1, by omega, by go_num, by rw [HS.out]; exact HO1.out, HB1.out⟩
        case measure => simp [intOf]; omega
    · obtain rfl : k = s := by omega
      have HE : Hid (ns.take k = ns) := Lib.hid (by rw [← HNl.out, List.take_length])
      have HO2 : Hid (Nats wr (.slice ao' ((ns.take k).filter (mayB d l)).length c') fs) := Lib.hid (by
        have h := HO.out
        simp only [HE.out, HFr.out] at h ⊢
        exact Nats.of_owns h HFb.out.1 HFb.out.2)
      go_wp2
      go_ret
      exact ⟨_, rfl, HO2.out, HB.out⟩

theorem equal_self (v v' : Value) (xs : List Nat) (w : World) (h : Nats w v xs) (h' : Nats w v' xs) :
    Calls Try.prog 28 #[v, v'] w fun e w' => e = .returned (.bool true) ∧ Below w.heap.size w w' := by
  have := equal_any v v' _ _ w h h'
  rwa [eqB_refl] at this

set_option maxHeartbeats 4000000 in
set_option maxRecDepth 100000 in
theorem caps_bad (d : Int) (v : Value) (xs : List Int) (w : World) (h : Ints w v xs) (hk : deckB d xs = false) :
    Calls Try.prog 4 #[.int .i64 d, v] w fun e w' => e = .returned (.bool true) ∧ Below w.heap.size w w' := by
  have HL := Lib.hid (fun w' (hb : Below w.heap.size w w') => list_any v _ w' (h.below hb (Nat.le_refl _)))
  have HC := Lib.hid (fun w' (hb : Below w.heap.size w w') => rCards_any d v _ w' (h.below hb (Nat.le_refl _)))
  rw [hk] at HC
  have HCp := Lib.hid (fun v' w' (h' : Ints w' v' (xs.take 90)) => Cap_bad d v' _ w' h' (by rw [deckB_take, hk]))
  have HFr := Lib.hid (fun v' w' (h' : Ints w' v' (xs.take 90)) => Free_bad d v' _ w' h' (by rw [deckB_take, hk]))
  have HAw := Lib.hid (fun w => awake_any w)
  clear h hk
  have HB0 := Lib.hid (Below.refl w.heap.size w)
  go_enter Try.func4, Try.ntmps4
  go_wp2_with fail
  refine (HL.out w HB0.out).mono ?_
  rintro e w1 ⟨v1, rfl, hv1, hb1⟩
  have HB1 := Lib.hid (HB0.out.trans (hb1.mono HB0.out.size))
  have A_1 := Lib.hid (hv1)
  clear hb1 hv1
  go_wp2_with fail
  refine (HCp.out v1 w1 A_1.out).mono ?_
  rintro e w' ⟨rfl, rfl⟩
  clear A_1
  go_wp2_with fail
  refine (HL.out w1 HB1.out).mono ?_
  rintro e w2 ⟨v2, rfl, hv2, hb2⟩
  have HB2 := Lib.hid (HB1.out.trans (hb2.mono HB1.out.size))
  have A_2 := Lib.hid (hv2)
  clear hb2 hv2
  go_wp2_with fail
  refine (HFr.out v2 w2 A_2.out).mono ?_
  rintro e w' ⟨rfl, rfl⟩
  clear A_2
  go_wp2_with fail
  refine (HC.out w2 HB2.out).mono ?_
  rintro e w' ⟨rfl, rfl⟩
  go_wp2_with fail
  refine (HAw.out w2).mono ?_
  rintro e w3 ⟨rfl, hb3⟩
  have HB3 := Lib.hid (HB2.out.trans (hb3.mono HB2.out.size))
  clear hb3
  go_wp2
  go_ret
  exact ⟨rfl, HB3.out⟩

set_option maxHeartbeats 4000000 in
set_option maxRecDepth 100000 in
theorem caps_no (d : Nat) (v : Value) (l : List Nat) (w : World) (h : Nats w v l) (h1 : 1 ≤ d) (h4 : d ≤ 4) (hk : Deck d l) (hc : capB d l = false) :
    Calls Try.prog 4 #[.int .i64 d, v] w fun e w' => e = .returned (.bool true) ∧ Below w.heap.size w w' := by
  have HL := Lib.hid (fun w' (hb : Below w.heap.size w w') => list_any v _ w' (h.below hb (Nat.le_refl _)))
  rw [deck_take hk h4] at HL
  have HC := Lib.hid (fun w' (hb : Below w.heap.size w w') => rCards_any d v _ w' (h.below hb (Nat.le_refl _)))
  rw [deck_mk h1 h4 hk] at HC
  have HCp := Lib.hid (fun v' w' (h' : Nats w' v' l) => Cap_any d v' _ w' h1 h4 hk h')
  rw [hc] at HCp
  have HFr := Lib.hid (fun v' w' (h' : Nats w' v' l) => Free_no d v' _ w' h1 h4 hk h' hc)
  have HRs := Lib.hid (fun w' (hb : Below w.heap.size w w') => rSets_any d v l w' h4 hk (h.below hb (Nat.le_refl _)))
  have HAw := Lib.hid (fun w => awake_any w)
  have hs0 : ((setsN d l : Int) == 0) = false := by
    have := caps_sets d l hk
    have hne : ¬ setsN d l = 0 := fun e => by
      have h2 := this.2 e
      unfold capB at hc
      rw [h2] at hc; cases hc
    simp; omega
  clear h hk hc
  generalize setsN d l = q at *
  have HB0 := Lib.hid (Below.refl w.heap.size w)
  go_enter Try.func4, Try.ntmps4
  go_wp2_with fail
  refine (HL.out w HB0.out).mono ?_
  rintro e w1 ⟨v1, rfl, hv1, hb1⟩
  have HB1 := Lib.hid (HB0.out.trans (hb1.mono HB0.out.size))
  have A_1 := Lib.hid (hv1)
  clear hb1 hv1
  go_wp2_with fail
  refine (HCp.out v1 w1 A_1.out).mono ?_
  rintro e w2 ⟨rfl, hb2⟩
  have HB2 := Lib.hid (HB1.out.trans (hb2.mono HB1.out.size))
  have A_2 := Lib.hid (A_1.out.below hb2 (Nat.le_refl _))
  clear hb2
  clear A_2
  go_wp2_with fail
  refine (HL.out w2 HB2.out).mono ?_
  rintro e w3 ⟨v3, rfl, hv3, hb3⟩
  have HB3 := Lib.hid (HB2.out.trans (hb3.mono HB2.out.size))
  have A_3 := Lib.hid (hv3)
  clear hb3 hv3
  go_wp2_with fail
  refine (HFr.out v3 w3 A_3.out).mono ?_
  rintro e w4 ⟨rfl, hb4⟩
  have HB4 := Lib.hid (HB3.out.trans (hb4.mono HB3.out.size))
  have A_4 := Lib.hid (A_3.out.below hb4 (Nat.le_refl _))
  clear hb4
  clear A_4
  go_wp2_with fail
  refine (HC.out w4 HB4.out).mono ?_
  rintro e w' ⟨rfl, rfl⟩
  go_wp2_with fail
  refine (HRs.out w4 HB4.out).mono ?_
  rintro e w5 ⟨rfl, hb5⟩
  have HB5 := Lib.hid (HB4.out.trans (hb5.mono HB4.out.size))
  clear hb5
  go_wp2_with fail
  refine (HAw.out w5).mono ?_
  rintro e w6 ⟨rfl, hb6⟩
  have HB6 := Lib.hid (HB5.out.trans (hb6.mono HB5.out.size))
  clear hb6
  go_wp2
  go_ret
  exact ⟨rfl, HB6.out⟩

set_option maxHeartbeats 4000000 in
set_option maxRecDepth 100000 in
theorem caps_yes (d : Nat) (v : Value) (l : List Nat) (w : World) (h : Nats w v l) (h1 : 1 ≤ d) (h4 : d ≤ 4) (hk : Deck d l) (hc : capB d l = true) :
    Calls Try.prog 4 #[.int .i64 d, v] w fun e w' => e = .returned (.bool true) ∧ Below w.heap.size w w' := by
  have HL := Lib.hid (fun w' (hb : Below w.heap.size w w') => list_any v _ w' (h.below hb (Nat.le_refl _)))
  rw [deck_take hk h4] at HL
  have HC := Lib.hid (fun w' (hb : Below w.heap.size w w') => rCards_any d v _ w' (h.below hb (Nat.le_refl _)))
  rw [deck_mk h1 h4 hk] at HC
  have HCp := Lib.hid (fun v' w' (h' : Nats w' v' l) => Cap_any d v' _ w' h1 h4 hk h')
  rw [hc] at HCp
  have HFr := Lib.hid (fun v' w' (h' : Nats w' v' l) => Free_any d v' _ w' h1 h4 hk h' hc)
  have HRs := Lib.hid (fun w' (hb : Below w.heap.size w w') => rSets_any d v l w' h4 hk (h.below hb (Nat.le_refl _)))
  have HRF := Lib.hid (fun w' (hb : Below w.heap.size w w') => rFree_any d v l w' h1 h4 hk (h.below hb (Nat.le_refl _)))
  have HEq := Lib.hid (fun v v' w (h : Nats w v (freeL d l)) (h' : Nats w v' (freeL d l)) => equal_self v v' _ w h h')
  have HAw := Lib.hid (fun w => awake_any w)
  have hs0 : setsN d l = 0 := (caps_sets d l hk).1 hc
  rw [hs0] at HRs
  clear h hk hc hs0
  generalize freeL d l = fs at *
  have HB0 := Lib.hid (Below.refl w.heap.size w)
  go_enter Try.func4, Try.ntmps4
  go_wp2_with fail
  refine (HL.out w HB0.out).mono ?_
  rintro e w1 ⟨v1, rfl, hv1, hb1⟩
  have HB1 := Lib.hid (HB0.out.trans (hb1.mono HB0.out.size))
  have A_1 := Lib.hid (hv1)
  clear hb1 hv1
  go_wp2_with fail
  refine (HCp.out v1 w1 A_1.out).mono ?_
  rintro e w2 ⟨rfl, hb2⟩
  have HB2 := Lib.hid (HB1.out.trans (hb2.mono HB1.out.size))
  have A_2 := Lib.hid (A_1.out.below hb2 (Nat.le_refl _))
  clear hb2
  clear A_2
  go_wp2_with fail
  refine (HL.out w2 HB2.out).mono ?_
  rintro e w3 ⟨v3, rfl, hv3, hb3⟩
  have HB3 := Lib.hid (HB2.out.trans (hb3.mono HB2.out.size))
  have A_3 := Lib.hid (hv3)
  clear hb3 hv3
  go_wp2_with fail
  refine (HFr.out v3 w3 A_3.out).mono ?_
  rintro e w4 ⟨v4, rfl, hv4, hb4⟩
  have HB4 := Lib.hid (HB3.out.trans (hb4.mono HB3.out.size))
  have A_4 := Lib.hid (A_3.out.below hb4 (Nat.le_refl _))
  have X_4 := Lib.hid (hv4)
  clear hb4 hv4
  clear A_4
  go_wp2_with fail
  refine (HC.out w4 HB4.out).mono ?_
  rintro e w' ⟨rfl, rfl⟩
  go_wp2_with fail
  refine (HRs.out w4 HB4.out).mono ?_
  rintro e w5 ⟨rfl, hb5⟩
  have HB5 := Lib.hid (HB4.out.trans (hb5.mono HB4.out.size))
  have X_5 := Lib.hid (X_4.out.below hb5 (Nat.le_refl _))
  clear hb5
  go_wp2_with fail
  refine (HAw.out w5).mono ?_
  rintro e w6 ⟨rfl, hb6⟩
  have HB6 := Lib.hid (HB5.out.trans (hb6.mono HB5.out.size))
  have X_6 := Lib.hid (X_5.out.below hb6 (Nat.le_refl _))
  clear hb6
  go_wp2_with fail
  refine (HRF.out w6 HB6.out).mono ?_
  rintro e w7 ⟨v7, rfl, hv7, hb7⟩
  have HB7 := Lib.hid (HB6.out.trans (hb7.mono HB6.out.size))
  have X_7 := Lib.hid (X_6.out.below hb7 (Nat.le_refl _))
  have Y_7 := Lib.hid (hv7)
  clear hb7 hv7
  go_wp2_with fail
  refine (HEq.out v4 v7 w7 X_7.out Y_7.out).mono ?_
  rintro e w8 ⟨rfl, hb8⟩
  have HB8 := Lib.hid (HB7.out.trans (hb8.mono HB7.out.size))
  have X_8 := Lib.hid (X_7.out.below hb8 (Nat.le_refl _))
  have Y_8 := Lib.hid (Y_7.out.below hb8 (Nat.le_refl _))
  clear hb8
  clear X_8
  clear Y_8
  go_wp2
  go_ret
  exact ⟨rfl, HB8.out⟩

theorem capsCaps_law (d : Int) (v : Value) (xs : List Int) (w : World) (h : Ints w v xs) :
    Calls Try.prog 4 #[.int .i64 d, v] w fun e w' => e = .returned (.bool true) ∧ Below w.heap.size w w' := by
  cases hk : deckB d xs with
  | false => exact caps_bad d v xs w h hk
  | true =>
    obtain ⟨n, l, rfl, h1, h4, _, rfl, hkk⟩ := deck_nats hk
    cases hc : capB n l with
    | false => exact caps_no n v l w h h1 h4 hkk hc
    | true => exact caps_yes n v l w h h1 h4 hkk hc
end Go.Proofs.Ytlalfjkenkmojaa
