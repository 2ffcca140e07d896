/- CapsLengths: long rulers; no Short -/
import Derived.Test.YtlalfjkenkmojaaLc
namespace Go.Proofs.Ytlalfjkenkmojaa
open Go.RowKit
set_option maxHeartbeats 4000000 in
set_option maxRecDepth 100000 in
theorem len_yes00 (v : Value) (l : List Nat) (w : World) (h : Nats w v l) (hl1 : 1 ≤ l.length) (hl10 : l.length ≤ 10) (hlb : ∀ y ∈ l, y ≤ 60) (hr : rulB l = true) (hs : 7 < l.length) (k : Int) (hk : k < 1 ∨ 7 < k) :
    Calls Try.prog 16 #[v, .int .i64 k] w fun e w' => e = .returned (.bool true) ∧ Below w.heap.size w w' := by
  have HL := Lib.hid (show ∀ w', Below w.heap.size w w' → Calls Try.prog 20 #[v] w' fun e w'' => ∃ v', e = .returned v' ∧ Nats w'' v' l ∧ Below w'.heap.size w' w'' from fun w' hb => by
    have hh := list_any v _ w' (Ints.below (show Ints w v (nats l) from h) hb (Nat.le_refl _))
    rw [List.take_of_length_le (by rw [nats_length]; omega)] at hh
    exact hh)
  have HAw := Lib.hid (fun w => awake_any w)
  have HRu := Lib.hid (fun v' w' (h' : Nats w' v' l) => hr ▸ Ruler_any v' l w' hl1 hl10 hlb h')
  have hu := ((rulB_iff l).1 hr).2.1
  have hle : ∀ i, i < l.length → l.getD i 0 ≤ lastN l := fun i hi => last_up hu (by simp [hi])
  have hq60 : lastN l ≤ 60 := hlb _ (by unfold lastN; simp [show l.length - 1 < l.length by omega])
  have HRb := Lib.hid (fun v' w' (h' : Nats w' v' (backN l l.length)) => rul_back hr ▸ Ruler_any v' (backN l l.length) w' (by rw [backN_len]; omega) (by rw [backN_len]; omega) (fun y hy => by obtain ⟨t, _, rfl⟩ := List.mem_map.1 hy; omega) h')
  have HSu := Lib.hid (fun v' w' (hq1 : 1 ≤ lastN l) (hq2 : lastN l ≤ 19) (h' : Nats w' v' l) => rul_sums hr ▸ Sums_any (2 * lastN l + 1) v' l w' ⟨by omega, by omega, hu, fun x hx => by have := last_up hu hx; show x < 2 * lastN l + 1; unfold lastN; omega⟩ h')
  have hH := rul_half hr
  obtain ⟨ao, cap, rfl, hc1, hc2, hx⟩ := Nats.open h
  have HX := Lib.hid hx
  have HLe := Lib.hid hle
  obtain ⟨bl, ol, rfl, hcl⟩ := hx (l.length - 1) (by omega)
  rw [show l.getD (l.length - 1) 0 = lastN l from rfl] at hcl
  have HBk : Hid (∀ t, t < l.length → backN l (t + 1) = backN l t ++ [lastN l - l.getD (l.length - 1 - t) 0]) := Lib.hid fun t _ => backN_succ l t
  have HBl : Hid (∀ t, (backN l t).length = t ∧ ∀ x ∈ backN l t, x ≤ 60) := Lib.hid fun t => ⟨backN_len l t, fun y hy => by obtain ⟨t, _, rfl⟩ := List.mem_map.1 hy; omega⟩
  clear hr h hx hlb hle hu
  obtain ⟨q, hq⟩ : ∃ q, q = lastN l := ⟨_, rfl⟩
  rw [← hq] at HSu hH hcl hq60 HBk HLe
  clear hq
  generalize l.length = n at *
  have fn0 : ((n:Int) == 0) = false := beq_eq_false_iff_ne.2 (by omega)
  have fn1 : ¬ n = 0 := by omega
  have fn2 : ¬ (n:Int) = 0 := by omega
  obtain ⟨n1, hn1⟩ : ∃ n1, n1 = n - 1 := ⟨_, rfl⟩
  have hn1n : n1 < n := by omega
  have hwn : IntKind.i64.wrap ((n:Int) - 1) = (n1:Int) := wr64 (by omega) (by omega)
  have hP90 : n * n1 ≤ 90 := Nat.le_trans (Nat.mul_le_mul hl10 (show n1 ≤ 9 by omega)) (by decide)
  obtain ⟨P, hP⟩ : ∃ P, P = n * n1 := ⟨_, rfl⟩
  have hwP : IntKind.i64.wrap ((n:Int) * (n1:Int)) = (P:Int) := by rw [← Int.natCast_mul, ← hP]; exact wr64 rfl (by omega)
  obtain ⟨Hf, hHf⟩ : ∃ Hf, Hf = P / 2 := ⟨_, rfl⟩
  have hwH1 : (P:Int).tdiv 2 = (Hf:Int) := by rw [hHf]; rfl
  have hwH2 : (P:Int) / 2 = (Hf:Int) := by rw [hHf]; rfl
  rw [← hn1] at hH hcl
  rw [← hP, ← hHf] at hH
  have HN1 := Lib.hid hn1
  have hHf45 : Hf ≤ 45 := by omega
  clear hn1 hP hHf hP90
  have HSh := Lib.hid (fun w => Short_bad k w hk)
  clear hk
  have HB0 := Lib.hid (Below.refl w.heap.size w)
  go_enter Try.func16, Try.ntmps16
  go_wp2_with fail
  refine (HSh.out w).mono ?_
  rintro e w' ⟨rfl, rfl⟩
  have HB1 := Lib.hid (HB0.out)
  clear HSh
  go_wp2_with fail
  refine (HL.out w HB1.out).mono ?_
  rintro e w3 ⟨v3, rfl, hv3, hb3⟩
  have HB3 := Lib.hid (HB1.out.trans (hb3.mono HB1.out.size))
  have HV3 := Lib.hid hv3
  clear hb3 hv3
  go_wp2_with fail
  refine (HRu.out v3 w3 HV3.out).mono ?_
  rintro e w4 ⟨rfl, hb4⟩
  have HB4 := Lib.hid (HB3.out.trans (hb4.mono HB3.out.size))
  clear HV3 HRu hb4
  have hcl' := ck hcl HB4.out
  clear hcl
  go_wp2_with fail
  go_quiet (fail)
  obtain ⟨i0, hi, hz0, hz1, hz2⟩ := info_parts Try.info3
  go_wp2_with fail
  go_loopw [13, 14] (fun u i wr => ∃ t : Nat, ∃ i' : Int, t ≤ n ∧ i = .int .i64 i' ∧ i' = (n:Int) - 1 - t ∧ wr.ownsRow w.heap.size 3 1 u (backN l t).length (ints (nats (backN l t))) ∧ Below w.heap.size w wr) (fun _ i _ => (intOf i + 1).toNat)
  case atStart => exact ⟨0, _, by omega, rfl, by have := HN1.out; omega, World.ownsRow_nil _ _ _ _, below_drewN HB4.out _⟩
  case round =>
    clear hcl' HB4
    obtain ⟨t, i, ht, rfl, hi', hO, hb⟩ := hrel
    have HO := Lib.hid hO
    have HB := Lib.hid hb
    obtain ⟨ao', c', rfl⟩ := owns_form hO
    clear hO hb
    have hlen : (backN l t).length ≤ 10 := by have := (HBl.out t).1; omega
    by_cases hlt : t < n
    · obtain ⟨jj, hjj⟩ : ∃ jj, jj = n - 1 - t := ⟨_, rfl⟩
      obtain rfl : i = (jj:Int) := by omega
      have hjn : jj < n := by omega
      obtain ⟨b, o, he, hck⟩ := HX.out jj hjn
      simp only [Option.some.injEq, Addr.mk.injEq] at he
      obtain ⟨rfl, rfl, _⟩ := he
      have hck' := ck hck HB.out
      have hzq := HLe.out jj hjn
      have HBk1 := Lib.hid (HBk.out t hlt)
      rw [← hjj] at HBk1
      have HT : Hid (n - 1 - t = jj) := Lib.hid hjj.symm
      clear hck hjj hi'
      generalize l.getD jj 0 = z at *
      obtain ⟨d, hd⟩ : ∃ d, d = q - z := ⟨_, rfl⟩
      have hwd : IntKind.i64.wrap ((q:Int) - (z:Int)) = (d:Int) := wr64 (by omega) (by omega)
      rw [← hd] at HBk1
      clear hd
      generalize hbt : backN l t = tp at *
      clear hbt
      go_wp2_with (at_builtin; refine wpList_append_own _ rfl _ _ 22 rfl w.heap.size 3 i0 (.int .i64 0) 1 8 Try.underlying22 hi hz0 hz1 hz2 rfl (by decide) _ _ _ rfl (HO.out.alloc _) ⟨wr.heap.size, 0, none⟩ 1 1 [.int .i64 d] rfl rfl (newOne _ _ _) (oneInt _) (by unfold maxLen; omega) (by omega) (by have := HB.out.size; simp; omega) ?_)
      intro v' w6 hown' hgrow _
      have HR := Lib.hid (nat_step HO.out HB.out HB.out.size hown' hgrow)
      clear hown' hgrow
      go_wp2
      go_roundw
      case rel => exact ⟨t + 1, (jj:Int) - 1, by omega, by go_num, by have := HT.out; omega, by rw [HBk1.out]; exact HR.out.1, HR.out.2⟩
      case measure => first | (simp [intOf]; done) | (simp [intOf]; omega)
    · obtain rfl : t = n := by omega
      have hin : i < 0 := by omega
      have fi : decide (0 ≤ i) = false := decide_eq_false (by omega)
      have HV6 : Hid (Nats wr (.slice ao' (backN l t).length c') (backN l t)) := Lib.hid (Nats.of_owns HO.out (by omega) fun x hx => by have := (HBl.out t).2 x hx; omega)
      clear hi' HO HX HLe HBk HBl hwn hwP hwH1 hwH2
      generalize (backN l t).length = len at *
      go_wp2_with fail
      refine (HRb.out _ wr HV6.out).mono ?_
      rintro e w7 ⟨rfl, hb7⟩
      have HB7 := Lib.hid (HB.out.trans (hb7.mono HB.out.size))
      clear hb7 HV6 HRb HB
      by_cases q1 : q = 0
      · subst q1
        go_wp2_with fail
        refine (HAw.out _).mono ?_
        rintro e w8 ⟨rfl, hb8⟩
        have HB8 := Lib.hid (HB7.out.trans (hb8.mono HB7.out.size))
        clear hb8
        go_wp2
        go_ret
        exact ⟨rfl, HB8.out⟩
      · by_cases q2 : q ≤ 19
        · have HSu1 := Lib.hid (fun v' w' h' => HSu.out v' w' (by omega) q2 h')
          obtain ⟨m, hm⟩ : ∃ m, m = 2 * q + 1 := ⟨_, rfl⟩
          have hwm1 : IntKind.i64.wrap (2 * (q:Int)) = 2 * (q:Int) := wr64 (by omega) (by omega)
          have hwm : IntKind.i64.wrap (2 * (q:Int) + 1) = (m:Int) := wr64 (by omega) (by omega)
          have hm2 : 2 ≤ m := by omega
          have hm40 : m ≤ 40 := by omega
          rw [← hm] at HSu1
          clear hm
          go_wp2_with fail
          refine (HL.out w7 HB7.out).mono ?_
          rintro e w8 ⟨v8, rfl, hv8, hb8⟩
          have HB8 := Lib.hid (HB7.out.trans (hb8.mono HB7.out.size))
          have HV8 := Lib.hid hv8
          clear hb8 hv8
          go_wp2_with fail
          refine (HSu1.out v8 w8 HV8.out).mono ?_
          rintro e w9 ⟨rfl, hb9⟩
          have HB9 := Lib.hid (HB8.out.trans (hb9.mono HB8.out.size))
          clear hb9
          go_wp2_with fail
          refine (HAw.out _).mono ?_
          rintro e w10 ⟨rfl, hb10⟩
          have HB10 := Lib.hid (HB9.out.trans (hb10.mono HB9.out.size))
          clear hb10
          go_wp2
          go_ret
          exact ⟨rfl, HB10.out⟩
        · have hwm1 : IntKind.i64.wrap (2 * (q:Int)) = 2 * (q:Int) := wr64 (by omega) (by omega)
          have hwm : IntKind.i64.wrap (2 * (q:Int) + 1) = 2 * (q:Int) + 1 := wr64 (by omega) (by omega)
          go_wp2_with fail
          refine (HAw.out _).mono ?_
          rintro e w8 ⟨rfl, hb8⟩
          have HB8 := Lib.hid (HB7.out.trans (hb8.mono HB7.out.size))
          clear hb8
          go_wp2
          go_ret
          exact ⟨rfl, HB8.out⟩
end Go.Proofs.Ytlalfjkenkmojaa
