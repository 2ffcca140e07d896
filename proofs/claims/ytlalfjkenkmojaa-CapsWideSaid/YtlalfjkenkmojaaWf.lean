/- CapsWide: the walk, nearF -/
import Derived.Test.YtlalfjkenkmojaaWa
namespace Go.Proofs.Ytlalfjkenkmojaa
open Go.RowKit

set_option maxHeartbeats 1600000 in
set_option maxRecDepth 100000 in
theorem wide_nearF1 (n : Nat) (v : Value) (l : List Nat) (by_ : Int) (w : World) (h : Nats w v l) (hs : Res n l) (U t T : Nat) (hU : IntKind.u64.wrap by_ = (U : Int)) (ht : t = U % n) (hT : T = 1 + t) (hg : Nat.gcd T n = 1) (hq : apartB n l = false) (hn : n ≤ 25) :
    Calls Try.prog 13 #[.int .i64 n, v, .int .i64 by_] w fun e w' => e = .returned (.bool true) ∧ Below w.heap.size w w' := by
  have hlo := hs.lo
  have hhi := hs.hi
  have ht_lt : t < n := by rw [ht]; exact Nat.mod_lt _ (by omega)
  have hT40 : T ≤ 40 := by omega
  have d3 : (U:Int).tmod (n:Int) = (t:Int) := by rw [ht]; rfl
  have d4 : (U:Int) % (n:Int) = (t:Int) := by rw [ht]; rfl
  have d5 : (1:Int) + (t:Int) = (T:Int) := by omega
  have dn : IntKind.u64.wrap (n:Int) = (n:Int) := by rw [IntKind.wrap_u64]; omega
  have hn0 : ((n:Int) == 0) = false := beq_eq_false_iff_ne.2 (by omega)
  have hn1 : ¬ n = 0 := by omega
  have hn2 : ¬ (n:Int) = 0 := by omega
  clear ht
  obtain ⟨G, hG⟩ : ∃ G, G = Nat.gcd T n := ⟨_, rfl⟩
  have HG := Lib.hid hG.symm
  rw [← hG] at hg
  have HL := Lib.hid (fun w' (hb : Below w.heap.size w w') => list_any v _ w' (h.below hb (Nat.le_refl _)))
  rw [nats_take90 (by have := hs.len; omega)] at HL
  have HAw := Lib.hid (fun w => awake_any w)
  have HSm := Lib.hid (fun v' w' (h' : Nats w' v' l) => Apart_any n v' l w' hs h')
  have HRe := Lib.hid (fun w' (hb : Below w.heap.size w w') => rResidues_any n v _ w' (h.below hb (Nat.le_refl _)))
  rw [res_mk hs] at HRe
  rw [hq] at HSm
  have hlen := hs.len
  obtain ⟨ml, hml⟩ : ∃ ml, ml = l.map fun x => x * T % n := ⟨_, rfl⟩
  have hm : Res n (sortN ml) := by
    rw [hml]
    exact ⟨hlo, hhi, times_up (hG.symm.trans hg) hs.up hs.bd, fun x hx => by
      obtain ⟨y, _, rfl⟩ := List.mem_map.1 (sortN_mem.1 hx)
      exact Nat.mod_lt _ (by omega)⟩
  have hsame : apartB n (sortN ml) = false := by rw [hml, times_same (by omega) (hG.symm.trans hg) hs.bd, hq]
  have HSm2 := Lib.hid (fun v' w' (h' : Nats w' v' (sortN ml)) => Apart_any n v' _ w' hm h')
  rw [hsame] at HSm2
  have hml_len : ml.length = l.length := by rw [hml, List.length_map]
  have HSort := Lib.hid (fun v' w' (ho : w'.ownsRow w.heap.size 3 1 v' ml.length (ints (nats ml))) (hB : w.heap.size ≤ w'.heap.size) => sortA_any w.heap.size v' ml w' (by omega) (fun x hx => by
      rw [hml] at hx
      obtain ⟨y, _, rfl⟩ := List.mem_map.1 hx
      have := Nat.mod_lt (y * T) (show 0 < n by omega)
      omega) ho hB)
  have HTk' : Hid (ml.take l.length = ml) := Lib.hid (List.take_of_length_le (by omega))
  have HSn := Lib.hid (fun k (hk : k < l.length) => show ml.take (k + 1) = ml.take k ++ [l.getD k 0 * T % n] by rw [hml]; exact mdw_snoc hk)
  have HRm := Lib.hid (fun (z : Nat) (hz : z < n) => times_row hz hT40 hhi)
  have HBd := Lib.hid hs.bd
  have HG1 : Hid (G = 1) := Lib.hid hg
  clear hm hsame hml hml_len
  have HMo := Lib.hid (fun w => Wide_any n w hlo hn)
  have hbs : Res n (wideN n) := ⟨hlo, hhi, wideN_up n, wideN_bd n⟩
  have HSm3 := Lib.hid (fun v' w' (h' : Nats w' v' (wideN n)) => Apart_any n v' _ w' hbs h')
  rw [wideN_apart n] at HSm3
  have HBb := Lib.hid hbs.bd
  have hbl := hbs.len
  have hm2 := wideN_half n
  have HPar : Hid ((n:Int).tmod 2 = 1 ∧ (n:Int) % 2 = 1 ∨ (n:Int).tmod 2 = 0 ∧ (n:Int) % 2 = 0 ∧ (2 * ((wideN n).length : Int) == (n:Int)) = true) := Lib.hid (by
    have e : (n:Int).tmod 2 = ((n % 2 : Nat) : Int) := rfl
    by_cases p : n % 2 = 0
    · right
      have := wideN_even p
      exact ⟨by rw [e, p]; rfl, by omega, beq_iff_eq.2 (by omega)⟩
    · left
      exact ⟨by rw [e, show n % 2 = 1 by omega]; rfl, by omega⟩)
  clear hbs
  generalize wideN n = bs at *
  obtain ⟨ao, cap, rfl, h1, h2, hxx⟩ := h.open
  have HX := Lib.hid hxx
  obtain ⟨i0, hi, hz0, hz1, hz2⟩ := info_parts Try.info3
  clear h hs hxx hq hG hg hT
  have HB0 := Lib.hid (Below.refl w.heap.size w)
  go_enter Try.func13, Try.ntmps13
  go_wp2_with fail
  refine (HL.out w HB0.out).mono ?_
  rintro e w1 ⟨v1, rfl, hv1, hb1⟩
  have HB1 := Lib.hid (HB0.out.trans (hb1.mono HB0.out.size))
  have A_1 := Lib.hid (hv1)
  clear hb1 hv1
  go_wp2_with fail
  refine (HSm.out v1 w1 A_1.out).mono ?_
  rintro e w2 ⟨rfl, hb2⟩
  have HB2 := Lib.hid (HB1.out.trans (hb2.mono HB1.out.size))
  have A_2 := Lib.hid (A_1.out.below hb2 (Nat.le_refl _))
  clear hb2
  clear A_2
  go_wp2_with fail
  refine (HRe.out w2 HB2.out).mono ?_
  rintro e w' ⟨rfl, rfl⟩
  go_wp2_with fail
  go_loopw [9, 10] (fun x y wr => ∃ a b m : Nat, x = .int .i64 a ∧ y = .int .i64 b ∧ Nat.gcd a b = G ∧ a ≤ 41 ∧ b ≤ 41 ∧ wr = w2.drewN m) (fun _ y _ => (intOf y).toNat)
  case atStart => exact ⟨T, n, 0, vint (by omega), rfl, HG.out, by omega, by omega, rfl⟩
  case round =>
    obtain ⟨a, b, m, hx, hy, hgc, ha, hb, rfl⟩ := hrel
    have HGc := Lib.hid hgc
    clear hgc
    by_cases hb0 : b = 0
    · have HAG : Hid (a = G) := Lib.hid (by have h := HGc.out; rw [hb0, Nat.gcd_zero_right] at h; exact h)
      have hy2 := hy.trans (show Value.int .i64 (b:Int) = Value.int .i64 0 by rw [hb0]; rfl)
      clear hy hb hb0
      subst hy2
      have HBg := Lib.hid (below_drewN HB2.out m)
      clear HB2 HGc HG
      generalize w2.drewN m = wg at *
      have hx2 := hx.trans (show Value.int .i64 (a:Int) = Value.int .i64 1 by rw [HAG.out, HG1.out]; rfl)
      clear hx ha
      subst hx2
      clear HAG HG1
      go_wp2_with fail
      go_loopw [11, 59] (fun s i wr => ∃ k : Nat, k ≤ l.length ∧ i = .int .i64 k ∧ wr.ownsRow w.heap.size 3 1 s (ml.take k).length (ints (nats (ml.take k))) ∧ Below w.heap.size w wr) (fun _ i _ => l.length - (intOf i).toNat)
      case atStart => exact ⟨0, Nat.zero_le _, rfl, World.ownsRow_nil _ _ _ _, HBg.out⟩
      case round =>
        clear HBg
        obtain ⟨k, hk, rfl, hO, hb⟩ := hrel
        have HO := Lib.hid hO
        have HB := Lib.hid hb
        obtain ⟨ao', c', rfl⟩ := owns_form hO
        clear hO hb
        by_cases hlt : k < l.length
        · obtain ⟨b, o, rfl, hck⟩ := HX.out k hlt
          have hck' := ck hck HB.out
          have hz := HBd.out _ (natD_mem hlt)
          have HS := Lib.hid (HSn.out k hlt)
          obtain ⟨p, hp, hp2, hr⟩ := HRm.out (l.getD k 0) hz
          have hll : (ml.take k).length ≤ 100 := by rw [List.length_take]; omega
          clear hck
          generalize l.getD k 0 = z at *
          generalize z * T % n = r at *
          generalize ml.take k = tp at *
          go_wp2_with (at_builtin; refine wpList_append_own _ rfl _ _ 22 rfl w.heap.size 3 i0 (.int .i64 0) 1 8 Try.underlying22 hi hz0 hz1 hz2 rfl (by decide) _ _ _ rfl (HO.out.alloc _) ⟨wr.heap.size, 0, none⟩ 1 1 [.int .i64 (r:Int)] rfl rfl (newOne _ _ _) (oneInt _) (by unfold maxLen; omega) (by omega) (by have := HB.out.size; simp; omega) ?_)
          intro v' w2 hown' hgrow _
          have HR := Lib.hid (nat_step HO.out HB.out HB.out.size hown' hgrow)
          clear hown' hgrow
          go_wp2
          go_roundw
          case rel => exact ⟨k + 1, by omega, vint (by omega), by rw [HS.out]; exact HR.out.1, HR.out.2⟩
          case measure => simp [intOf]; omega
        · obtain rfl : k = l.length := by omega
          have HSo := Lib.hid (HSort.out (.slice ao' (ml.take l.length).length c') wr (by have h := HO.out; rw [HTk'.out] at h ⊢; exact h) HB.out.size)
          generalize (ml.take l.length).length = len at *
          clear HO
          go_wp2_with fail
          refine HSo.out.mono ?_
          rintro e w8 ⟨rfl, hn8, hb8⟩
          have HB8 := Lib.hid (HB.out.trans hb8)
          have HN8 := Lib.hid hn8
          clear hb8 hn8 HSo HB
          go_wp2_with fail
          refine (HSm2.out _ w8 HN8.out).mono ?_
          rintro e w9 ⟨rfl, hb9⟩
          have HBz := Lib.hid (HB8.out.trans (hb9.mono HB8.out.size))
          clear hb9 HN8 HB8
          go_wp2_with fail
          rcases HPar.out with ⟨p1, p2⟩ | ⟨p1, p2, p3⟩
          · refine (HMo.out w9).mono ?_
            rintro e w10 ⟨v10, rfl, hn10, hb10⟩
            have HB10 := Lib.hid (HBz.out.trans (hb10.mono HBz.out.size))
            have HN10 := Lib.hid hn10
            have HCl := Lib.hid (clone1_any v10 _ w10 hn10)
            have HNf : Hid (∃ a c, v10 = .slice a bs.length c) := Lib.hid (by obtain ⟨a, c, e, _⟩ := Nats.open hn10; exact ⟨a, c, e⟩)
            obtain ⟨a10, c10, rfl⟩ := HNf.out
            clear hb10 hn10 HNf
            go_wp2_with fail
            refine HCl.out.mono ?_
            rintro e w11 ⟨a11, c11, rfl, ho11, hb11⟩
            have HB11 := Lib.hid (HB10.out.trans (hb11.mono HB10.out.size))
            have HN11 : Hid (Nats w11 (.slice a11 bs.length c11) bs) := Lib.hid (by
              have e := nats_length bs
              rw [e] at ho11
              exact Nats.of_owns ho11 (by omega) fun x hx => by have := HBb.out x hx; omega)
            have HN11' := Lib.hid (HN10.out.below hb11 (Nat.le_refl _))
            rw [nats_length bs]
            clear ho11 hb11 HCl HN10
            go_wp2_with fail
            refine (HSm3.out _ w11 HN11.out).mono ?_
            rintro e w12 ⟨rfl, hb12⟩
            have HB12 := Lib.hid (HB11.out.trans (hb12.mono HB11.out.size))
            have HN12 := Lib.hid (HN11'.out.below hb12 (Nat.le_refl _))
            clear hb12 HN11 HN11'
            go_wp2_with fail
            refine (HAw.out w12).mono ?_
            rintro e w13 ⟨rfl, hb13⟩
            have HB13 := Lib.hid (HB12.out.trans (hb13.mono HB12.out.size))
            clear hb13
            go_wp2
            go_ret
            exact ⟨rfl, HB13.out⟩
          · refine (HMo.out w9).mono ?_
            rintro e w10 ⟨v10, rfl, hn10, hb10⟩
            have HB10 := Lib.hid (HBz.out.trans (hb10.mono HBz.out.size))
            have HN10 := Lib.hid hn10
            have HCl := Lib.hid (clone1_any v10 _ w10 hn10)
            have HNf : Hid (∃ a c, v10 = .slice a bs.length c) := Lib.hid (by obtain ⟨a, c, e, _⟩ := Nats.open hn10; exact ⟨a, c, e⟩)
            obtain ⟨a10, c10, rfl⟩ := HNf.out
            clear hb10 hn10 HNf
            go_wp2_with fail
            refine HCl.out.mono ?_
            rintro e w11 ⟨a11, c11, rfl, ho11, hb11⟩
            have HB11 := Lib.hid (HB10.out.trans (hb11.mono HB10.out.size))
            have HN11 : Hid (Nats w11 (.slice a11 bs.length c11) bs) := Lib.hid (by
              have e := nats_length bs
              rw [e] at ho11
              exact Nats.of_owns ho11 (by omega) fun x hx => by have := HBb.out x hx; omega)
            have HN11' := Lib.hid (HN10.out.below hb11 (Nat.le_refl _))
            rw [nats_length bs]
            clear ho11 hb11 HCl HN10
            go_wp2_with fail
            refine (HSm3.out _ w11 HN11.out).mono ?_
            rintro e w12 ⟨rfl, hb12⟩
            have HB12 := Lib.hid (HB11.out.trans (hb12.mono HB11.out.size))
            have HN12 := Lib.hid (HN11'.out.below hb12 (Nat.le_refl _))
            clear hb12 HN11 HN11'
            go_wp2_with fail
            refine (HAw.out w12).mono ?_
            rintro e w13 ⟨rfl, hb13⟩
            have HB13 := Lib.hid (HB12.out.trans (hb13.mono HB12.out.size))
            clear hb13
            go_wp2
            go_ret
            exact ⟨rfl, HB13.out⟩
    · subst hx hy
      have e1 : ((b:Int) == 0) = false := beq_eq_false_iff_ne.2 (by omega)
      have e2 : ¬ (b:Int) = 0 := by omega
      have e3 : (a:Int).tmod (b:Int) = ((a % b : Nat) : Int) := rfl
      have e4 := Nat.mod_lt a (show 0 < b by omega)
      have HGn := Lib.hid ((gcd_step a b).trans HGc.out)
      generalize a % b = r at *
      go_wp2_with fail
      go_quiet (fail)
      go_wp2
      go_roundw
      case rel => exact ⟨b, r, _, rfl, rfl, HGn.out, by omega, by omega, World.drewN_drewN ..⟩
      case measure => simp [intOf]; omega

set_option maxHeartbeats 1600000 in
set_option maxRecDepth 100000 in
theorem wide_nearF0 (n : Nat) (v : Value) (l : List Nat) (by_ : Int) (w : World) (h : Nats w v l) (hs : Res n l) (U t T : Nat) (hU : IntKind.u64.wrap by_ = (U : Int)) (ht : t = U % n) (hT : T = 1 + t) (hg : Nat.gcd T n ≠ 1) (hq : apartB n l = false) (hn : n ≤ 25) :
    Calls Try.prog 13 #[.int .i64 n, v, .int .i64 by_] w fun e w' => e = .returned (.bool true) ∧ Below w.heap.size w w' := by
  have hlo := hs.lo
  have hhi := hs.hi
  have ht_lt : t < n := by rw [ht]; exact Nat.mod_lt _ (by omega)
  have hT40 : T ≤ 40 := by omega
  have d3 : (U:Int).tmod (n:Int) = (t:Int) := by rw [ht]; rfl
  have d4 : (U:Int) % (n:Int) = (t:Int) := by rw [ht]; rfl
  have d5 : (1:Int) + (t:Int) = (T:Int) := by omega
  have dn : IntKind.u64.wrap (n:Int) = (n:Int) := by rw [IntKind.wrap_u64]; omega
  have hn0 : ((n:Int) == 0) = false := beq_eq_false_iff_ne.2 (by omega)
  have hn1 : ¬ n = 0 := by omega
  have hn2 : ¬ (n:Int) = 0 := by omega
  clear ht
  obtain ⟨G, hG⟩ : ∃ G, G = Nat.gcd T n := ⟨_, rfl⟩
  have HG := Lib.hid hG.symm
  rw [← hG] at hg
  have HL := Lib.hid (fun w' (hb : Below w.heap.size w w') => list_any v _ w' (h.below hb (Nat.le_refl _)))
  rw [nats_take90 (by have := hs.len; omega)] at HL
  have HAw := Lib.hid (fun w => awake_any w)
  have HSm := Lib.hid (fun v' w' (h' : Nats w' v' l) => Apart_any n v' l w' hs h')
  have HRe := Lib.hid (fun w' (hb : Below w.heap.size w w') => rResidues_any n v _ w' (h.below hb (Nat.le_refl _)))
  rw [res_mk hs] at HRe
  rw [hq] at HSm
  have hlen := hs.len
  have HG1 : Hid (G ≠ 1) := Lib.hid hg
  have HMo := Lib.hid (fun w => Wide_any n w hlo hn)
  have hbs : Res n (wideN n) := ⟨hlo, hhi, wideN_up n, wideN_bd n⟩
  have HSm3 := Lib.hid (fun v' w' (h' : Nats w' v' (wideN n)) => Apart_any n v' _ w' hbs h')
  rw [wideN_apart n] at HSm3
  have HBb := Lib.hid hbs.bd
  have hbl := hbs.len
  have hm2 := wideN_half n
  have HPar : Hid ((n:Int).tmod 2 = 1 ∧ (n:Int) % 2 = 1 ∨ (n:Int).tmod 2 = 0 ∧ (n:Int) % 2 = 0 ∧ (2 * ((wideN n).length : Int) == (n:Int)) = true) := Lib.hid (by
    have e : (n:Int).tmod 2 = ((n % 2 : Nat) : Int) := rfl
    by_cases p : n % 2 = 0
    · right
      have := wideN_even p
      exact ⟨by rw [e, p]; rfl, by omega, beq_iff_eq.2 (by omega)⟩
    · left
      exact ⟨by rw [e, show n % 2 = 1 by omega]; rfl, by omega⟩)
  clear hbs
  generalize wideN n = bs at *
  obtain ⟨ao, cap, rfl, h1, h2, hxx⟩ := h.open
  clear h hs hxx hq hG hg hT
  have HB0 := Lib.hid (Below.refl w.heap.size w)
  go_enter Try.func13, Try.ntmps13
  go_wp2_with fail
  refine (HL.out w HB0.out).mono ?_
  rintro e w1 ⟨v1, rfl, hv1, hb1⟩
  have HB1 := Lib.hid (HB0.out.trans (hb1.mono HB0.out.size))
  have A_1 := Lib.hid (hv1)
  clear hb1 hv1
  go_wp2_with fail
  refine (HSm.out v1 w1 A_1.out).mono ?_
  rintro e w2 ⟨rfl, hb2⟩
  have HB2 := Lib.hid (HB1.out.trans (hb2.mono HB1.out.size))
  have A_2 := Lib.hid (A_1.out.below hb2 (Nat.le_refl _))
  clear hb2
  clear A_2
  go_wp2_with fail
  refine (HRe.out w2 HB2.out).mono ?_
  rintro e w' ⟨rfl, rfl⟩
  go_wp2_with fail
  go_loopw [9, 10] (fun x y wr => ∃ a b m : Nat, x = .int .i64 a ∧ y = .int .i64 b ∧ Nat.gcd a b = G ∧ a ≤ 41 ∧ b ≤ 41 ∧ wr = w2.drewN m) (fun _ y _ => (intOf y).toNat)
  case atStart => exact ⟨T, n, 0, vint (by omega), rfl, HG.out, by omega, by omega, rfl⟩
  case round =>
    obtain ⟨a, b, m, hx, hy, hgc, ha, hb, rfl⟩ := hrel
    have HGc := Lib.hid hgc
    clear hgc
    by_cases hb0 : b = 0
    · have HAG : Hid (a = G) := Lib.hid (by have h := HGc.out; rw [hb0, Nat.gcd_zero_right] at h; exact h)
      have hy2 := hy.trans (show Value.int .i64 (b:Int) = Value.int .i64 0 by rw [hb0]; rfl)
      clear hy hb hb0
      subst hy2
      have HBg := Lib.hid (below_drewN HB2.out m)
      clear HB2 HGc HG
      generalize w2.drewN m = wg at *
      subst hx
      have e1 : ((a:Int) == 1) = false := beq_eq_false_iff_ne.2 (by have h1 := HAG.out; have h2 := HG1.out; omega)
      clear HAG HG1
      go_wp2_with fail
      have HBz := HBg
      clear HBg
      rcases HPar.out with ⟨p1, p2⟩ | ⟨p1, p2, p3⟩
      · refine (HMo.out wg).mono ?_
        rintro e w10 ⟨v10, rfl, hn10, hb10⟩
        have HB10 := Lib.hid (HBz.out.trans (hb10.mono HBz.out.size))
        have HN10 := Lib.hid hn10
        have HCl := Lib.hid (clone1_any v10 _ w10 hn10)
        have HNf : Hid (∃ a c, v10 = .slice a bs.length c) := Lib.hid (by obtain ⟨a, c, e, _⟩ := Nats.open hn10; exact ⟨a, c, e⟩)
        obtain ⟨a10, c10, rfl⟩ := HNf.out
        clear hb10 hn10 HNf
        go_wp2_with fail
        refine HCl.out.mono ?_
        rintro e w11 ⟨a11, c11, rfl, ho11, hb11⟩
        have HB11 := Lib.hid (HB10.out.trans (hb11.mono HB10.out.size))
        have HN11 : Hid (Nats w11 (.slice a11 bs.length c11) bs) := Lib.hid (by
          have e := nats_length bs
          rw [e] at ho11
          exact Nats.of_owns ho11 (by omega) fun x hx => by have := HBb.out x hx; omega)
        have HN11' := Lib.hid (HN10.out.below hb11 (Nat.le_refl _))
        rw [nats_length bs]
        clear ho11 hb11 HCl HN10
        go_wp2_with fail
        refine (HSm3.out _ w11 HN11.out).mono ?_
        rintro e w12 ⟨rfl, hb12⟩
        have HB12 := Lib.hid (HB11.out.trans (hb12.mono HB11.out.size))
        have HN12 := Lib.hid (HN11'.out.below hb12 (Nat.le_refl _))
        clear hb12 HN11 HN11'
        go_wp2_with fail
        refine (HAw.out w12).mono ?_
        rintro e w13 ⟨rfl, hb13⟩
        have HB13 := Lib.hid (HB12.out.trans (hb13.mono HB12.out.size))
        clear hb13
        go_wp2
        go_ret
        exact ⟨rfl, HB13.out⟩
      · refine (HMo.out wg).mono ?_
        rintro e w10 ⟨v10, rfl, hn10, hb10⟩
        have HB10 := Lib.hid (HBz.out.trans (hb10.mono HBz.out.size))
        have HN10 := Lib.hid hn10
        have HCl := Lib.hid (clone1_any v10 _ w10 hn10)
        have HNf : Hid (∃ a c, v10 = .slice a bs.length c) := Lib.hid (by obtain ⟨a, c, e, _⟩ := Nats.open hn10; exact ⟨a, c, e⟩)
        obtain ⟨a10, c10, rfl⟩ := HNf.out
        clear hb10 hn10 HNf
        go_wp2_with fail
        refine HCl.out.mono ?_
        rintro e w11 ⟨a11, c11, rfl, ho11, hb11⟩
        have HB11 := Lib.hid (HB10.out.trans (hb11.mono HB10.out.size))
        have HN11 : Hid (Nats w11 (.slice a11 bs.length c11) bs) := Lib.hid (by
          have e := nats_length bs
          rw [e] at ho11
          exact Nats.of_owns ho11 (by omega) fun x hx => by have := HBb.out x hx; omega)
        have HN11' := Lib.hid (HN10.out.below hb11 (Nat.le_refl _))
        rw [nats_length bs]
        clear ho11 hb11 HCl HN10
        go_wp2_with fail
        refine (HSm3.out _ w11 HN11.out).mono ?_
        rintro e w12 ⟨rfl, hb12⟩
        have HB12 := Lib.hid (HB11.out.trans (hb12.mono HB11.out.size))
        have HN12 := Lib.hid (HN11'.out.below hb12 (Nat.le_refl _))
        clear hb12 HN11 HN11'
        go_wp2_with fail
        refine (HAw.out w12).mono ?_
        rintro e w13 ⟨rfl, hb13⟩
        have HB13 := Lib.hid (HB12.out.trans (hb13.mono HB12.out.size))
        clear hb13
        go_wp2
        go_ret
        exact ⟨rfl, HB13.out⟩
    · subst hx hy
      have e1 : ((b:Int) == 0) = false := beq_eq_false_iff_ne.2 (by omega)
      have e2 : ¬ (b:Int) = 0 := by omega
      have e3 : (a:Int).tmod (b:Int) = ((a % b : Nat) : Int) := rfl
      have e4 := Nat.mod_lt a (show 0 < b by omega)
      have HGn := Lib.hid ((gcd_step a b).trans HGc.out)
      generalize a % b = r at *
      go_wp2_with fail
      go_quiet (fail)
      go_wp2
      go_roundw
      case rel => exact ⟨b, r, _, rfl, rfl, HGn.out, by omega, by omega, World.drewN_drewN ..⟩
      case measure => simp [intOf]; omega
end Go.Proofs.Ytlalfjkenkmojaa
