/- SchemesDescend: the walk -/
import Derived.Test.YtdnhfnegnjdeoaaDoorDo
import Derived.Test.YtdnhfnegnjdeoaaDoorOd
import Derived.Test.YtdnhfnegnjdeoaaDoorAl
import Derived.Test.YtdnhfnegnjdeoaaDoorLr
namespace Go.Proofs.YtdnhfnegnjdeoaaDoor
open Go.RowKit

def ReadQ (e : Ending) : Prop := ∃ a b c d f : Int, e = .returned (.tuple #[.agg #[.int .i64 a, .int .i64 b, .int .i64 c, .int .i64 d], .int .i64 f])
theorem Read_form (v : Value) (xs : List Int) (w : World) (h : Ints w v xs) (hT : Tab w) : Calls Tryd.prog 17 #[v] w fun e w' => ReadQ e ∧ Below w.heap.size w w' := by
  cases hs : graphB xs with
  | false => exact (Read_bad v xs w h hs hT).mono fun _ _ ⟨he, hb⟩ => ⟨⟨0, 0, 0, 0, 2, he⟩, hb⟩
  | true =>
    obtain ⟨bs, rfl, hg⟩ := graphB_of hs
    obtain ⟨a, b, c, d, f, hv⟩ := readV_form (nats bs).length (readP (nats bs).length bs)
    exact (Read_any v bs _ w hg h hT).mono fun _ _ ⟨he, hb⟩ => ⟨⟨a, b, c, d, f, he.trans (by rw [hv])⟩, hb⟩
theorem badA_take (xs : List Int) (v : Int) (h : badA xs v = true) : badA (xs.take 20) v = true := by
  unfold badA at *
  rw [graphB_take]
  by_cases hl : xs.length ≤ 20
  · rwa [List.take_of_length_le hl]
  · rw [graphB_len (.inr (by omega))]; rfl

set_option maxRecDepth 100000 in
set_option maxHeartbeats 4000000 in
theorem descend_bad (u : Value) (xs : List Int) (v : Int) (w : World) (h : Ints w u xs) (hT : Tab w) (hbd : badA xs v = true) :
    Calls Tryd.prog 14 #[u, .int .i64 v] w fun e w' => e = .returned (.bool true) ∧ Below w.heap.size w w' := by
  have HL := Lib.hid (fun w' (hb : Below w.heap.size w w') => list_any u xs w' (h.below hb (Nat.le_refl _)))
  have HTab := Lib.hid (fun w' (hb : Below w.heap.size w w') => tab_below hT hb)
  have HAw := Lib.hid (fun w' (hb : Below w.heap.size w w') => awake_any w' (HTab.out w' hb))
  have HR := Lib.hid (fun v' w' (h' : Ints w' v' (xs.take 20)) (hT' : Tab w') => Read_form v' (xs.take 20) w' h' hT')
  have HA := Lib.hid (fun v' w' (h' : Ints w' v' (xs.take 20)) (hT' : Tab w') => Alone_bad v' (xs.take 20) v w' h' hT' (badA_take xs v hbd))
  clear h hT hbd
  have HB0 := Lib.hid (Below.refl w.heap.size w)
  go_enter Tryd.func14, Tryd.ntmps14
  go_wp2_with fail
  refine (HL.out w HB0.out).mono ?_
  rintro e w1 ⟨v1, rfl, hv1, hb1⟩
  have HB1 := Lib.hid (HB0.out.trans (hb1.mono HB0.out.size))
  have A_1 := Lib.hid (hv1)
  clear hb1 hv1
  go_wp2_with fail
  refine (HR.out v1 w1 A_1.out (HTab.out w1 HB1.out)).mono ?_
  rintro e w2 ⟨⟨a, b, c, d, f, rfl⟩, hb2⟩
  have HB2 := Lib.hid (HB1.out.trans (hb2.mono HB1.out.size))
  have A_2 := Lib.hid (A_1.out.below hb2 (Nat.le_refl _))
  clear hb2
  clear A_2
  have HB3 := Lib.hid (HB2.out.alloc HB2.out.size (.cells #[.int .i64 a, .int .i64 b, .int .i64 c, .int .i64 d] 24))
  go_wp2_with fail
  refine (HL.out _ HB3.out).mono ?_
  rintro e w4 ⟨v4, rfl, hv4, hb4⟩
  have HB4 := Lib.hid (HB3.out.trans (hb4.mono HB3.out.size))
  have A_4 := Lib.hid hv4
  clear hb4 hv4
  go_wp2_with fail
  refine (HA.out v4 w4 A_4.out (HTab.out w4 HB4.out)).mono ?_
  rintro e w5 ⟨rfl, hb5⟩
  have HB5 := Lib.hid (HB4.out.trans (hb5.mono HB4.out.size))
  have A_5 := Lib.hid (A_4.out.below hb5 (Nat.le_refl _))
  clear hb5
  clear A_5
  go_wp2_with fail
  refine (HAw.out w5 HB5.out).mono ?_
  rintro e w6 ⟨rfl, hb6⟩
  have HB6 := Lib.hid (HB5.out.trans (hb6.mono HB5.out.size))
  clear hb6
  go_wp2
  go_ret
  exact ⟨rfl, HB6.out⟩

theorem wit_bd (bs : List Nat) (v i j : Nat) : 0 ≤ wit bs v i j ∧ wit bs v i j ≤ 1 := by
  unfold wit bi
  split
  · cases odd3 bs i j v <;> decide
  · omega
theorem sm_bd {f : Nat → Int} {c : Int} (h : ∀ i, 0 ≤ f i ∧ f i ≤ c) : ∀ n : Nat, 0 ≤ sm f n ∧ sm f n ≤ c * n
  | 0 => by simp [sm]
  | n + 1 => by
    have h1 := sm_bd h n
    have h2 := h n
    have e : c * ((n + 1 : Nat) : Int) = c * n + c := by grind
    rw [sm, e]
    omega
theorem wits_bd (bs : List Nat) (v : Nat) : ∀ n : Nat, n ≤ 16 → 0 ≤ P2 (wit bs v) n ∧ P2 (wit bs v) n ≤ 16 * n
  | 0, _ => by simp [P2, sm]
  | n + 1, h => by
    have h1 := wits_bd bs v n (by omega)
    have h2 := sm_bd (f := fun j => wit bs v n j) (c := 1) (fun i => wit_bd bs v n i) n
    rw [P2_succ]
    omega
theorem descend_num {m K L M v : Nat} {bs : List Nat} (h : Gr (m + 1) bs) (hr : readP (m + 1) bs = some (K, L, M)) (hv : v ≤ m) (h1 : 1 ≤ m) (hN : ((m + 1 : Nat) : Int) = 2 * (2 * K - L - M))
    (hk1 : ¬ 2 * ((K:Int) - M) < 1) (hk2 : ¬ ((m + 1 : Nat) : Int) - 3 < 2 * ((K:Int) - M)) :
    readV m (readP m (aloneL (m + 1) bs v)) = .tuple #[.agg #[.int .i64 (((m + 1 : Nat) : Int) - 1), .int .i64 (2 * ((K:Int) - M)), .int .i64 ((K:Int) + L - 2 * M), .int .i64 ((K:Int) - M)], .int .i64 0] := by
  have hs := readP_srg h hr
  have hL0 := alone_near h hs hv h1 hN hk1
  obtain ⟨K', hK⟩ : ∃ K' : Nat, (K':Int) = 2 * (K - M) := ⟨(2 * ((K:Int) - M)).toNat, by omega⟩
  obtain ⟨L', hL⟩ : ∃ L' : Nat, (L':Int) = K + L - 2 * M := ⟨((K:Int) + L - 2 * M).toNat, by omega⟩
  obtain ⟨M', hM⟩ : ∃ M' : Nat, (M':Int) = K - M := ⟨((K:Int) - M).toNat, by omega⟩
  have hA := alone_srg h hs hv h1 hN hK hL hM
  rw [srg_readP (alone_gr h hv h1) hA (by omega) (by omega), readV, hK, hL, hM]
  unfold num4
  rw [show ((m:Nat):Int) = ((m + 1 : Nat) : Int) - 1 by omega]

theorem readP_le {n : Nat} {bs : List Nat} {K L M : Nat} (hr : readP n bs = some (K, L, M)) : K ≤ 16 ∧ L ≤ 16 ∧ M ≤ 16 := by
  unfold readP at hr
  split at hr
  · cases hr
  · split at hr
    · obtain ⟨e1, e2⟩ := Prod.mk.inj (Option.some.inj hr)
      obtain ⟨e3, e4⟩ := Prod.mk.inj e2
      subst e1 e3 e4
      exact ⟨pop_le _ _, com_le _ _ _, com_le _ _ _⟩
    · cases hr
theorem read_facts (n : Nat) (bs : List Nat) : ∃ a b c d f : Int, readV n (readP n bs) = .tuple #[.agg #[.int .i64 a, .int .i64 b, .int .i64 c, .int .i64 d], .int .i64 f] ∧
    (f = 4 ∨ (f = 0 ∧ ∃ K L M : Nat, a = n ∧ b = K ∧ c = L ∧ d = M ∧ readP n bs = some (K, L, M))) := by
  cases hr : readP n bs with
  | none => exact ⟨0, 0, 0, 0, 4, rfl, .inl rfl⟩
  | some p =>
    obtain ⟨K, L, M⟩ := p
    exact ⟨n, K, L, M, 0, rfl, .inr ⟨rfl, K, L, M, rfl, rfl, rfl, rfl, rfl⟩⟩
structure QX (w : World) (A : Nat) (a b c d : Int) : Prop where
  q : Q4 w A 24 a b c d
theorem QX.below {w w' : World} {A : Nat} {a b c d : Int} (h : QX w A a b c d) (hb : Below w.heap.size w w') (_ : w.heap.size ≤ w.heap.size) : QX w' A a b c d := ⟨h.q.below hb⟩
theorem clone_gr (v : Value) (bs : List Nat) (n : Nat) (w : World) (hg : Gr n bs) (h : Nats w v bs) :
    Calls Tryd.prog 52 #[v] w fun e w' => ∃ v', e = .returned v' ∧ Nats w' v' bs ∧ Below w.heap.size w w' :=
  (clone1_any v (nats bs) w h).mono fun _ _ ⟨ao, c, he, ho, hb⟩ => ⟨_, he, ⟨Sl.of_owns ho (by rw [nats_length, hg.len]; have := hg.le; omega), h.2⟩, hb⟩

set_option maxRecDepth 100000 in
set_option maxHeartbeats 8000000 in
theorem descend_good (u : Value) (bs : List Nat) (m v : Nat) (w : World) (hg : Gr (m + 1) bs) (h : Nats w u bs) (hT : Tab w) (h1 : 1 ≤ m) (hv : v ≤ m) :
    Calls Tryd.prog 14 #[u, .int .i64 v] w fun e w' => e = .returned (.bool true) ∧ Below w.heap.size w w' := by
  have HL := Lib.hid (fun w' (hb : Below w.heap.size w w') => list_any u (nats bs) w' (h.below hb (Nat.le_refl _)))
  rw [hg.take] at HL
  have HTab := Lib.hid (fun w' (hb : Below w.heap.size w w') => tab_below hT hb)
  have HAw := Lib.hid (fun w' (hb : Below w.heap.size w w') => awake_any w' (HTab.out w' hb))
  obtain ⟨ra, rb, rc, rd, rf, hrv, hrf⟩ := read_facts (m + 1) bs
  have HR := Lib.hid (fun v' w' (h' : Nats w' v' bs) (hT' : Tab w') => Read_any v' bs (m + 1) w' hg h' hT')
  rw [hrv] at HR
  have HF := Lib.hid hrf
  have hgA := alone_gr hg hv h1
  have HGA := Lib.hid hgA
  have HAl := Lib.hid (fun v' w' (h' : Nats w' v' bs) (hT' : Tab w') => Alone_any v' bs (m + 1) v w' hg h' hT' (by omega) (by omega))
  have HG := Lib.hid (fun w' (hb : Below w.heap.size w w') => Graph_any u (nats bs) w' (h.below hb (Nat.le_refl _)))
  rw [graphB_mk hg] at HG
  have HCl := Lib.hid (fun v' w' (h' : Nats w' v' (aloneL (m + 1) bs v)) => clone_gr v' (aloneL (m + 1) bs v) m w' hgA h')
  have HOA := Lib.hid (fun v' w' (h' : Nats w' v' (aloneL (m + 1) bs v)) (hT' : Tab w') => Odd_any v' (aloneL (m + 1) bs v) m w' hgA h' hT')
  have HOB := Lib.hid (fun v' w' (h' : Nats w' v' bs) (hT' : Tab w') => Odd_any v' bs (m + 1) w' hg h' hT')
  have HO3 := Lib.hid (fun i j w' (hi : i < m + 1) (hj : j < m + 1) (hb : Below w.heap.size w w') => isOdd54_any u bs (m + 1) i j v w' hg (h.below hb (Nat.le_refl _)) hi hj (by omega))
  have HRA := Lib.hid (fun v' w' (h' : Nats w' v' (aloneL (m + 1) bs v)) (hT' : Tab w') => Read_any v' (aloneL (m + 1) bs v) m w' hgA h' hT')
  have HNum := Lib.hid (fun K L M (hr : readP (m + 1) bs = some (K, L, M)) => descend_num (K := K) (L := L) (M := M) hg hr hv h1)
  have HLe := Lib.hid (fun K L M (hr : readP (m + 1) bs = some (K, L, M)) => readP_le hr)
  have HTot := Lib.hid (odd_total hg hv)
  have HEd := Lib.hid (edges_sum hg hv h1)
  have HWb := Lib.hid (fun n (hn : n ≤ 16) => wits_bd bs v n hn)
  have HWr := Lib.hid (fun i n => sm_bd (f := fun j => wit bs v i j) (c := 1) (fun j => wit_bd bs v i j) n)
  have HEb := Lib.hid (fun n => sm_bd (f := fun i => ((pop 16 ((aloneL (m + 1) bs v).getD i 0) : Nat) : Int)) (c := 16) (fun i => by have := pop_le 16 ((aloneL (m + 1) bs v).getD i 0); omega) n)
  have HA16 : Hid (∀ i, (aloneL (m + 1) bs v).getD i 0 < 65536) := Lib.hid fun i => hgA.get16 i
  have HWit : Hid (∀ i j, wit bs v i j = if i ≠ v ∧ j ≠ v then bi (odd3 bs i j v) else 0) := Lib.hid fun i j => rfl
  have hm16 : m + 1 ≤ 16 := hg.le
  obtain ⟨ao, cap, rfl, hcap, _⟩ := hg.open h
  have oddb := oddI_le bs (m + 1) hg.le
  have odda := oddI_le (aloneL (m + 1) bs v) m (by omega)
  have hv0 : ¬ ((v:Int) < 0) := by omega
  have hvn : ¬ (((m + 1 : Nat) : Int) ≤ v) := by omega
  have hc1 : ((m + 1 : Nat) : Int) = (m:Int) + 1 := by omega
  clear h hT hg hgA hrv hrf
  generalize oddI bs (m + 1) = ob at *
  generalize oddI (aloneL (m + 1) bs v) m = oa at *
  have HB0 := Lib.hid (Below.refl w.heap.size w)
  go_enter Tryd.func14, Tryd.ntmps14
  go_wp2_with fail
  refine (HL.out w HB0.out).mono ?_
  rintro e w1 ⟨v1, rfl, hv1, hb1⟩
  have HB1 := Lib.hid (HB0.out.trans (hb1.mono HB0.out.size))
  have A_1 := Lib.hid (hv1)
  clear hb1 hv1
  go_wp2_with fail
  refine (HR.out v1 w1 A_1.out (HTab.out w1 HB1.out)).mono ?_
  rintro e w2 ⟨rfl, hb2⟩
  have HB2 := Lib.hid (HB1.out.trans (hb2.mono HB1.out.size))
  have A_2 := Lib.hid (A_1.out.below hb2 (Nat.le_refl _))
  clear hb2
  clear A_2
  have HB3 := Lib.hid (HB2.out.alloc HB2.out.size (.cells #[.int .i64 ra, .int .i64 rb, .int .i64 rc, .int .i64 rd] 24))
  have Q_3 : Hid (QX (w2.alloc (.cells #[.int .i64 ra, .int .i64 rb, .int .i64 rc, .int .i64 rd] 24)) w2.heap.size ra rb rc rd) := Lib.hid ⟨Q4.new w2 24 ra rb rc rd⟩
  go_wp2_with fail
  refine (HL.out _ HB3.out).mono ?_
  rintro e w4 ⟨v4, rfl, hv4, hb4⟩
  have HB4 := Lib.hid (HB3.out.trans (hb4.mono HB3.out.size))
  have Q_4 := Lib.hid (Q_3.out.below hb4 (Nat.le_refl _))
  have A_4 := Lib.hid hv4
  clear hb4 hv4
  go_wp2_with fail
  refine (HAl.out v4 w4 A_4.out (HTab.out w4 HB4.out)).mono ?_
  rintro e w5 ⟨v5, rfl, hv5, hb5⟩
  have HB5 := Lib.hid (HB4.out.trans (hb5.mono HB4.out.size))
  have Q_5 := Lib.hid (Q_4.out.below hb5 (Nat.le_refl _))
  have A_5 := Lib.hid (A_4.out.below hb5 (Nat.le_refl _))
  have S_5 := Lib.hid (hv5)
  clear hb5 hv5
  clear A_5
  obtain ⟨sa, sc, rfl, hsc, hsx⟩ := HGA.out.open S_5.out
  have HSX := Lib.hid hsx
  have HBs : Hid (Below w5.heap.size w5 w5) := Lib.hid (Below.refl _ _)
  clear hsx
  go_wp2_with fail
  refine (HG.out w5 HB5.out).mono ?_
  rintro e w6 ⟨rfl, hb6⟩
  have HB6 := Lib.hid (HB5.out.trans (hb6.mono HB5.out.size))
  have Q_6 := Lib.hid (Q_5.out.below hb6 (Nat.le_refl _))
  have S_6 := Lib.hid (S_5.out.below hb6 (Nat.le_refl _))
  clear hb6
  go_wp2_with fail
  refine (HCl.out _ w6 S_6.out).mono ?_
  rintro e w7 ⟨v7, rfl, hv7, hb7⟩
  have HB7 := Lib.hid (HB6.out.trans (hb7.mono HB6.out.size))
  have Q_7 := Lib.hid (Q_6.out.below hb7 (Nat.le_refl _))
  have S_7 := Lib.hid (S_6.out.below hb7 (Nat.le_refl _))
  have C_7 := Lib.hid (hv7)
  clear hb7 hv7
  go_wp2_with fail
  refine (HOA.out v7 w7 C_7.out (HTab.out w7 HB7.out)).mono ?_
  rintro e w8 ⟨rfl, hb8⟩
  have HB8 := Lib.hid (HB7.out.trans (hb8.mono HB7.out.size))
  have Q_8 := Lib.hid (Q_7.out.below hb8 (Nat.le_refl _))
  have S_8 := Lib.hid (S_7.out.below hb8 (Nat.le_refl _))
  have C_8 := Lib.hid (C_7.out.below hb8 (Nat.le_refl _))
  clear hb8
  clear C_8
  have HB8 := HB8
  have S_8 := S_8
  have Q_8 := Q_8
  have HBSX := HSX
  clear HSX HBs
  obtain ⟨wz, hwz⟩ : ∃ wz, wz = w8 := ⟨_, rfl⟩
  subst hwz
  clear HBSX
  go_wp2
  go_loopw [11, 72] (fun s i wr => ∃ k : Nat, k ≤ m + 1 ∧ i = .int .i64 k ∧ s = .int .i64 (P2 (wit bs v) k) ∧ Below wz.heap.size wz wr) (fun _ i _ => m + 1 - (intOf i).toNat)
  case atStart => exact ⟨0, Nat.zero_le _, rfl, rfl, Below.refl _ _⟩
  case round =>
    obtain ⟨k, hk, rfl, rfl, hb⟩ := hrel
    have HB := Lib.hid hb
    have hwb := HWb.out k (by omega)
    by_cases hkm : k < m + 1
    · have HP0 : Hid (P2 (wit bs v) k + sm (fun j => wit bs v k j) 0 = P2 (wit bs v) k) := Lib.hid (by rw [sm]; omega)
      have HPn : Hid (P2 (wit bs v) k + sm (fun j => wit bs v k j) k = P2 (wit bs v) (k + 1)) := Lib.hid rfl
      have hkm2 : (k:Int) < (m:Int) + 1 := by omega
      clear hb
      go_wp2
      go_loopw [11, 76] (fun s i wr => ∃ q : Nat, q ≤ k ∧ i = .int .i64 q ∧ s = .int .i64 (P2 (wit bs v) k + sm (fun j => wit bs v k j) q) ∧ Below wz.heap.size wz wr) (fun _ i _ => k - (intOf i).toNat)
      case atStart => exact ⟨0, Nat.zero_le _, rfl, by rw [HP0.out], HB.out⟩
      case round =>
        obtain ⟨q, hq, rfl, rfl, hb⟩ := hrel
        have HBq := Lib.hid hb
        have HBw := Lib.hid (HB8.out.trans (hb.mono HB8.out.size))
        by_cases hqk : q < k
        · have hsb := HWr.out k q
          have HSn : Hid (P2 (wit bs v) k + sm (fun j => wit bs v k j) (q + 1) = P2 (wit bs v) k + sm (fun j => wit bs v k j) q + wit bs v k q) := Lib.hid (by rw [sm]; omega)
          have HWq := Lib.hid (HWit.out k q)
          have hxb : 0 ≤ P2 (wit bs v) k + sm (fun j => wit bs v k j) q ∧ P2 (wit bs v) k + sm (fun j => wit bs v k j) q ≤ 1000 := by omega
          have HNx : Hid (∀ z, z = wit bs v k q → Value.int .i64 (P2 (wit bs v) k + sm (fun j => wit bs v k j) q + z) = Value.int .i64 (P2 (wit bs v) k + sm (fun j => wit bs v k j) (q + 1))) := Lib.hid fun z hz => by rw [HSn.out, hz]
          clear hb hsb HSn
          generalize P2 (wit bs v) k + sm (fun j => wit bs v k j) q = x at *
          by_cases e1 : k = v
          · have hb1 : ((k:Int) != (v:Int)) = false := by simp [e1]
            have hz0 : wit bs v k q = 0 := by rw [HWq.out, if_neg (fun h => h.1 e1)]
            have HX0 := Lib.hid ((HNx.out 0 hz0.symm).symm.trans (by rw [Int.add_zero]))
            clear e1 hz0
            go_wp2
            go_roundw
            case rel => exact ⟨q + 1, by omega, by go_num, HX0.out.symm, HBq.out⟩
            case measure => simp [intOf]; omega
          · have hb1 : ((k:Int) != (v:Int)) = true := by simp; omega
            by_cases e2 : q = v
            · have hb2 : ((q:Int) != (v:Int)) = false := by simp [e2]
              have hz0 : wit bs v k q = 0 := by rw [HWq.out, if_neg (fun h => h.2 e2)]
              have HX0 := Lib.hid ((HNx.out 0 hz0.symm).symm.trans (by rw [Int.add_zero]))
              clear e1 e2 hz0
              go_wp2
              go_roundw
              case rel => exact ⟨q + 1, by omega, by go_num, HX0.out.symm, HBq.out⟩
              case measure => simp [intOf]; omega
            · have hb2 : ((q:Int) != (v:Int)) = true := by simp; omega
              have hz : wit bs v k q = bi (odd3 bs k q v) := by rw [HWq.out, if_pos ⟨e1, e2⟩]
              have HZ := Lib.hid hz
              have HC := Lib.hid (HO3.out k q wr (by omega) (by omega) HBw.out)
              clear e1 e2 hz
              generalize odd3 bs k q v = o at *
              go_wp2_with fail
              refine HC.out.mono ?_
              rintro e w9 ⟨rfl, hb9⟩
              have HB9 := Lib.hid (HBq.out.trans (hb9.mono HBq.out.size))
              clear hb9
              cases o with
              | true =>
                have HX0 := Lib.hid (HNx.out 1 (by rw [HZ.out]; rfl))
                go_wp2
                go_roundw
                case rel => exact ⟨q + 1, by omega, by go_num, HX0.out, HB9.out⟩
                case measure => simp [intOf]; omega
              | false =>
                have HX0 := Lib.hid ((HNx.out 0 (by rw [HZ.out]; rfl)).symm.trans (by rw [Int.add_zero]))
                go_wp2
                go_roundw
                case rel => exact ⟨q + 1, by omega, by go_num, HX0.out.symm, HB9.out⟩
                case measure => simp [intOf]; omega
        · obtain rfl : q = k := by omega
          rw [HPn.out]
          go_wp2
          go_roundw
          case rel => exact ⟨q + 1, by omega, by go_num, rfl, HBq.out⟩
          case measure => simp [intOf]; omega
    · obtain ⟨kk, hkk⟩ : ∃ kk, kk = k := ⟨_, rfl⟩
      subst hkk
      have hPk : P2 (wit bs v) kk = P2 (wit bs v) (m + 1) := by rw [show kk = m + 1 by omega]
      have S_9 := Lib.hid (S_8.out.below hb (Nat.le_refl _))
      have Q_9 := Lib.hid (Q_8.out.below hb (Nat.le_refl _))
      have HB9 := Lib.hid (HB8.out.trans (hb.mono HB8.out.size))
      obtain ⟨sa', sc', es, _, hsx⟩ := HGA.out.open S_9.out
      simp only [Value.slice.injEq, true_and] at es
      obtain ⟨rfl, rfl⟩ := es
      have HSX := Lib.hid hsx
      clear hb hsx HB HWb HWr HWit HO3 S_8 Q_8
      generalize P2 (wit bs v) kk = wt at *
      rw [← hPk] at HEd HTot
      clear hPk
      go_wp2
      go_loopw [14, 100] (fun s i wl => ∃ k : Nat, k ≤ m ∧ i = .int .i64 k ∧ s = .int .i64 (sm (fun i => ((pop 16 ((aloneL (m + 1) bs v).getD i 0) : Nat) : Int)) k) ∧ wl = wr) (fun _ i _ => m - (intOf i).toNat)
      case atStart => exact ⟨0, Nat.zero_le _, rfl, rfl, rfl⟩
      case round =>
        obtain ⟨k, hk, rfl, rfl, rfl⟩ := hrel
        by_cases hkm : k < m
        · obtain ⟨b1, o1, rfl, hcell⟩ := HSX.out k hkm
          have hlt := HA16.out k
          have hs1 := HEb.out k
          have hpl := pop_le 16 ((aloneL (m + 1) bs v).getD k 0)
          have HSn : Hid (sm (fun i => ((pop 16 ((aloneL (m + 1) bs v).getD i 0) : Nat) : Int)) (k + 1) = sm (fun i => ((pop 16 ((aloneL (m + 1) bs v).getD i 0) : Nat) : Int)) k + ((pop 16 ((aloneL (m + 1) bs v).getD k 0) : Nat) : Int)) := Lib.hid rfl
          have HC := Lib.hid (fun w => rsize53_any ((aloneL (m + 1) bs v).getD k 0) w hlt)
          have HXn : Hid (Value.int .i64 (sm (fun i => ((pop 16 ((aloneL (m + 1) bs v).getD i 0) : Nat) : Int)) k + ((pop 16 ((aloneL (m + 1) bs v).getD k 0) : Nat) : Int)) = Value.int .i64 (sm (fun i => ((pop 16 ((aloneL (m + 1) bs v).getD i 0) : Nat) : Int)) (k + 1))) := Lib.hid rfl
          clear HSn
          generalize sm (fun i => ((pop 16 ((aloneL (m + 1) bs v).getD i 0) : Nat) : Int)) k = x at *
          generalize (aloneL (m + 1) bs v).getD k 0 = y at *
          generalize pop 16 y = pz at *
          go_wp2_with fail
          refine (HC.out _).mono ?_
          rintro e w9 ⟨rfl, rfl⟩
          go_wp2
          go_roundw
          case rel => exact ⟨k + 1, by omega, by go_num, HXn.out, trivial⟩
          case measure => simp [intOf]; omega
        · obtain rfl : k = m := by omega
          have hed := HEd.out
          generalize sm (fun i => ((pop 16 ((aloneL (k + 1) bs v).getD i 0) : Nat) : Int)) k = ed at *
          subst hed
          have hto := HTot.out
          have ht1 : ((oa:Int) + wt != (ob:Int)) = false := by simp; omega
          have ht2 : (2 * wt != 2 * wt) = false := by simp
          have hto2 : 0 ≤ wt ∧ wt ≤ 100000 := by omega
          clear HEd HTot hto HEb HA16 HSX
          go_wp2_with fail
          refine (HL.out _ HB9.out).mono ?_
          rintro e w10 ⟨v10, rfl, hv10, hb10⟩
          have HB10 := Lib.hid (HB9.out.trans (hb10.mono HB9.out.size))
          have S_10 := Lib.hid (S_9.out.below hb10 (Nat.le_refl _))
          have Q_10 := Lib.hid (Q_9.out.below hb10 (Nat.le_refl _))
          clear hb10
          go_wp2_with fail
          refine (HOB.out _ _ hv10 (HTab.out _ HB10.out)).mono ?_
          rintro e w11 ⟨rfl, hb11⟩
          have HB11 := Lib.hid (HB10.out.trans (hb11.mono HB10.out.size))
          have S_11 := Lib.hid (S_10.out.below hb11 (Nat.le_refl _))
          have Q_11 := Lib.hid (Q_10.out.below hb11 (Nat.le_refl _))
          clear hb11 hv10
          rcases HF.out with rfl | ⟨rfl, K, L, M, rfl, rfl, rfl, rfl, hrp⟩
          · go_wp2_with fail
            refine (HAw.out _ HB11.out).mono ?_
            rintro e w12 ⟨rfl, hb12⟩
            have HB12 := Lib.hid (HB11.out.trans (hb12.mono HB11.out.size))
            clear hb12
            go_wp2
            go_ret
            exact ⟨rfl, HB12.out⟩
          · obtain ⟨hK16, hL16, hM16⟩ := HLe.out _ _ _ hrp
            have HNm := Lib.hid (HNum.out K L M hrp)
            have q0 := Q_11.out.q.c0
            have q1 := Q_11.out.q.c1
            have q2 := Q_11.out.q.c2
            have q3 := Q_11.out.q.c3
            clear hrp HNum HLe HR HF
            by_cases hN : ((k + 1 : Nat) : Int) = 2 * (2 * (K:Int) - L - M)
            · have hN1 : (((k + 1 : Nat) : Int) != 2 * (2 * (K:Int) - L - M)) = false := by simp; omega
              have HRd := HRA.out _ _ S_11.out (HTab.out _ HB11.out)
              by_cases hk1 : 2 * ((K:Int) - M) < 1
              · obtain ⟨ya, yb, yc, yd, yf, hyv⟩ := readV_form k (readP k (aloneL (k + 1) bs v))
                rw [hyv] at HRd
                have HRd := Lib.hid HRd
                clear HRA hyv HNm hN
                go_wp2_with fail
                refine HRd.out.mono ?_
                rintro e w12 ⟨rfl, hb12⟩
                have HB12 := Lib.hid (HB11.out.trans (hb12.mono HB11.out.size))
                have QE := Q_11.out.below hb12 (Nat.le_refl _)
                have ba := (Below.refl w12.heap.size w12).alloc (Nat.le_refl _) (.cells #[.int .i64 ya, .int .i64 yb, .int .i64 yc, .int .i64 yd] 24)
                have HB13 := Lib.hid (HB12.out.trans (ba.mono HB12.out.size))
                have QF := QE.below ba (Nat.le_refl _)
                have r0 := QF.q.c0
                have r1 := QF.q.c1
                have r2 := QF.q.c2
                have r3 := QF.q.c3
                clear hb12 ba QE q0 q1 q2 q3
                go_wp2_with fail
                refine (HAw.out _ HB13.out).mono ?_
                rintro e w14 ⟨rfl, hb14⟩
                have HB14 := Lib.hid (HB13.out.trans (hb14.mono HB13.out.size))
                clear hb14
                go_wp2
                go_ret
                exact ⟨rfl, HB14.out⟩
              · by_cases hk2 : ((k + 1 : Nat) : Int) - 3 < 2 * ((K:Int) - M)
                · obtain ⟨ya, yb, yc, yd, yf, hyv⟩ := readV_form k (readP k (aloneL (k + 1) bs v))
                  rw [hyv] at HRd
                  have HRd := Lib.hid HRd
                  clear HRA hyv HNm hN
                  go_wp2_with fail
                  refine HRd.out.mono ?_
                  rintro e w12 ⟨rfl, hb12⟩
                  have HB12 := Lib.hid (HB11.out.trans (hb12.mono HB11.out.size))
                  have QE := Q_11.out.below hb12 (Nat.le_refl _)
                  have ba := (Below.refl w12.heap.size w12).alloc (Nat.le_refl _) (.cells #[.int .i64 ya, .int .i64 yb, .int .i64 yc, .int .i64 yd] 24)
                  have HB13 := Lib.hid (HB12.out.trans (ba.mono HB12.out.size))
                  have QF := QE.below ba (Nat.le_refl _)
                  have r0 := QF.q.c0
                  have r1 := QF.q.c1
                  have r2 := QF.q.c2
                  have r3 := QF.q.c3
                  clear hb12 ba QE q0 q1 q2 q3
                  go_wp2_with fail
                  refine (HAw.out _ HB13.out).mono ?_
                  rintro e w14 ⟨rfl, hb14⟩
                  have HB14 := Lib.hid (HB13.out.trans (hb14.mono HB13.out.size))
                  clear hb14
                  go_wp2
                  go_ret
                  exact ⟨rfl, HB14.out⟩
                · rw [HNm.out (by omega) (by omega) (by omega), show ((k + 1 : Nat) : Int) - 1 = (k:Int) by omega] at HRd
                  have HRd := Lib.hid HRd
                  have HOwn := Lib.hid (fun w => own_agg (k:Int) (2 * ((K:Int) - M)) ((K:Int) + L - 2 * M) ((K:Int) - M) w)
                  clear HRA HNm hN
                  go_wp2_with fail
                  refine HRd.out.mono ?_
                  rintro e w12 ⟨rfl, hb12⟩
                  have HB12 := Lib.hid (HB11.out.trans (hb12.mono HB11.out.size))
                  have QE := Q_11.out.below hb12 (Nat.le_refl _)
                  have ba := (Below.refl w12.heap.size w12).alloc (Nat.le_refl _) (.cells #[.int .i64 (k:Int), .int .i64 (2 * ((K:Int) - M)), .int .i64 ((K:Int) + L - 2 * M), .int .i64 ((K:Int) - M)] 24)
                  have HB13 := Lib.hid (HB12.out.trans (ba.mono HB12.out.size))
                  have QF := QE.below ba (Nat.le_refl _)
                  have QY := Q4.new w12 24 (k:Int) (2 * ((K:Int) - M)) ((K:Int) + L - 2 * M) ((K:Int) - M)
                  have r0 := QF.q.c0
                  have r1 := QF.q.c1
                  have r2 := QF.q.c2
                  have r3 := QF.q.c3
                  have HQF := Lib.hid QF.q
                  have HQY := Lib.hid QY
                  clear hb12 ba QE q0 q1 q2 q3 QF QY
                  go_wp2_with fail
                  obtain ⟨a1, ha1⟩ : ∃ z, z = 2 * ((K:Int) - M) := ⟨_, rfl⟩
                  obtain ⟨a2, ha2⟩ : ∃ z, z = (K:Int) + L - 2 * M := ⟨_, rfl⟩
                  obtain ⟨a3, ha3⟩ : ∃ z, z = (K:Int) - M := ⟨_, rfl⟩
                  rw [← ha1, ← ha2, ← ha3] at HOwn HQF HQY HB13 ⊢
                  generalize w12.alloc (.cells #[.int .i64 (k:Int), .int .i64 a1, .int .i64 a2, .int .i64 a3] 24) = W at *
                  have x0 := HQF.out.c0
                  have x1 := HQF.out.c1
                  have x2 := HQF.out.c2
                  have x3 := HQF.out.c3
                  have y0 := HQY.out.c0
                  have y1 := HQY.out.c1
                  have y2 := HQY.out.c2
                  have y3 := HQY.out.c3
                  have HBW := Lib.hid (fun w' (hb : Below W.heap.size W w') => HB13.out.trans (hb.mono HB13.out.size))
                  have hw1 : IntKind.i64.wrap ((k:Int) + 1 - 1) = (k:Int) := by rw [show (k:Int) + 1 - 1 = k by omega]; exact IntWalk.i64_in _ (by omega)
                  have hw1' : IntKind.i64.wrap (((k + 1 : Nat) : Int) - 1) = (k:Int) := by rw [show ((k + 1 : Nat) : Int) - 1 = k by omega]; exact IntWalk.i64_in _ (by omega)
                  have hw0 : IntKind.i64.wrap (k:Int) = (k:Int) := IntWalk.i64_in _ (by omega)
                  have hw2 : IntKind.i64.wrap ((K:Int) + L) = (K:Int) + L := IntWalk.i64_in _ (by omega)
                  have hw3 : IntKind.i64.wrap (2 * (M:Int)) = 2 * (M:Int) := IntWalk.i64_in _ (by omega)
                  have hw4 : IntKind.i64.wrap ((K:Int) + L - 2 * M) = a2 := by rw [ha2]; exact IntWalk.i64_in _ (by omega)
                  have hw5 : IntKind.i64.wrap ((K:Int) - M) = a3 := by rw [ha3]; exact IntWalk.i64_in _ (by omega)
                  clear ha1 ha2 ha3 HQF HQY r0 r1 r2 r3 HL HCl HOA HOB HG HAl
                  go_region_held3 (fun w' => w'.cell? ⟨w2.heap.size, 0, none⟩ = some (.int .i64 ((k + 1 : Nat) : Int)) ∧ w'.cell? ⟨w2.heap.size, 1, none⟩ = some (.int .i64 K) ∧ w'.cell? ⟨w2.heap.size, 2, none⟩ = some (.int .i64 L) ∧ w'.cell? ⟨w2.heap.size, 3, none⟩ = some (.int .i64 M) ∧
                      w'.cell? ⟨w12.heap.size, 0, none⟩ = some (.int .i64 k) ∧ w'.cell? ⟨w12.heap.size, 1, none⟩ = some (.int .i64 a1) ∧ w'.cell? ⟨w12.heap.size, 2, none⟩ = some (.int .i64 a2) ∧ w'.cell? ⟨w12.heap.size, 3, none⟩ = some (.int .i64 a3) ∧ Below W.heap.size W w')
                    (first | exact ⟨x0, x1, x2, x3, y0, y1, y2, y3, (Below.refl _ _).drew⟩ | (obtain ⟨k0, k1, k2, k3, k4, k5, k6, k7, kb⟩ := ‹_ ∧ _›; exact ⟨ck k0 hbx, ck k1 hbx, ck k2 hbx, ck k3 hbx, ck k4 hbx, ck k5 hbx, ck k6 hbx, ck k7 hbx, kb.trans (hbx.mono kb.size)⟩))
                    (first | (go_at_call 21; refine (HOwn.out _).mono ?_; rintro e w' ⟨rfl, hbx⟩) | (go_at_call 22; refine (HAw.out _ (HBW.out _ (by obtain ⟨_, _, _, _, _, _, _, _, kb⟩ := ‹_ ∧ _›; exact kb))).mono ?_; rintro e w' ⟨rfl, hbx⟩))
                  go_wp2
                  go_ret
                  obtain ⟨_, _, _, _, _, _, _, _, kb⟩ := ‹_ ∧ _›
                  exact ⟨rfl, HBW.out _ kb⟩
            · have hN1 : (((k + 1 : Nat) : Int) != 2 * (2 * (K:Int) - L - M)) = true := by simp; omega
              clear hN
              go_wp2_with fail
              refine (HAw.out _ HB11.out).mono ?_
              rintro e w12 ⟨rfl, hb12⟩
              have HB12 := Lib.hid (HB11.out.trans (hb12.mono HB11.out.size))
              clear hb12
              go_wp2
              go_ret
              exact ⟨rfl, HB12.out⟩

theorem schemesDescend_law (u : Value) (xs : List Int) (v : Int) (w : World) (h : Ints w u xs) (hT : Tab w) :
    Calls Tryd.prog 14 #[u, .int .i64 v] w fun e w' => e = .returned (.bool true) ∧ Below w.heap.size w w' := by
  cases hb : badA xs v with
  | true => exact descend_bad u xs v w h hT hb
  | false =>
    unfold badA at hb
    simp only [Bool.not_eq_false', Bool.and_eq_true, decide_eq_true_eq] at hb
    obtain ⟨⟨⟨hs, h2⟩, h3⟩, h4⟩ := hb
    obtain ⟨bs, rfl, hg⟩ := graphB_of hs
    rw [nats_length] at h2 h4 hg
    obtain ⟨t, rfl⟩ : ∃ t : Nat, v = t := ⟨v.toNat, by omega⟩
    obtain ⟨m, hm⟩ : ∃ m, bs.length = m + 1 := ⟨bs.length - 1, by omega⟩
    rw [hm] at hg
    exact descend_good u bs m t w hg h hT (by omega) (by omega)
end Go.Proofs.YtdnhfnegnjdeoaaDoor
