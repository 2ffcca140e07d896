/- the reference's short and Short -/
import Derived.Test.YtlalfjkenkmojaaTg
namespace Go.Proofs.Ytlalfjkenkmojaa
open Go.RowKit

theorem alloc_cell' {w : World} {a : Addr} {v : Value} (o : Obj) (h : w.cell? a = some v) : (w.alloc o).cell? a = some v := (World.cell?_alloc_lt w o a (World.block_lt_of_cell? w _ h)).trans h
/-- What a call of short leaves. -/
def SPost (F : Option (List Nat)) (w : World) (e : Ending) (w' : World) : Prop :=
  Below w.heap.size w w' ∧ match F with
  | some r => ∃ b o n c, e = .returned (.slice (some ⟨b, o, none⟩) n c) ∧ Nats w' (.slice (some ⟨b, o, none⟩) n c) r
  | none => e = .returned (.slice none 0 0)
/-- What is still to be tried from x on. -/
def restS (L m : Nat) (l : List Nat) (x : Nat) : Option (List Nat) := (List.range' x (L + 1 - x)).findSome? fun x => if rulB (l ++ [x]) then shortN L m (l ++ [x]) else none
theorem restS_start (L m : Nat) (l : List Nat) : shortN L (m + 1) l = restS L m l (l.getD (l.length - 1) 0 + 1) := by
  rw [shortN, restS, show L + 1 - (l.getD (l.length - 1) 0 + 1) = L - l.getD (l.length - 1) 0 by omega]
theorem restS_end {L m : Nat} {l : List Nat} {x : Nat} (h : L < x) : restS L m l x = none := by
  unfold restS; rw [show L + 1 - x = 0 by omega]; rfl
theorem restS_no {L m : Nat} {l : List Nat} {x : Nat} (hx : x ≤ L) (h : (if rulB (l ++ [x]) then shortN L m (l ++ [x]) else none) = none) : restS L m l x = restS L m l (x + 1) := by
  unfold restS
  rw [show L + 1 - x = (L + 1 - (x + 1)) + 1 by omega, List.range'_succ, List.findSome?_cons, h]
theorem restS_yes {L m : Nat} {l : List Nat} {x : Nat} {r : List Nat} (hx : x ≤ L) (h : (if rulB (l ++ [x]) then shortN L m (l ++ [x]) else none) = some r) : restS L m l x = some r := by
  unfold restS
  rw [show L + 1 - x = (L + 1 - (x + 1)) + 1 by omega, List.range'_succ, List.findSome?_cons, h]

set_option maxHeartbeats 4000000 in
set_option maxRecDepth 100000 in
theorem short_any (k L : Nat) (hk : k ≤ 7) (hL : L ≤ 60) (m : Nat) :
    ∀ (l : List Nat) (b o cap : Nat) (w : World), l.length + m = k → l ≠ [] → (∀ y ∈ l, y ≤ 60) → Nats w (.slice (some ⟨b, o, none⟩) l.length cap) l →
      Calls Try.prog 86 #[.int .i64 k, .int .i64 L, .slice (some ⟨b, o, none⟩) l.length cap] w (SPost (shortN L m l) w) := by
  induction m with
  | zero =>
    intro l b o cap w hlk h0 hlb hN
    have hp : 0 < l.length := List.length_pos_iff.2 h0
    obtain ⟨ao, cap', he', hc1, hc2, hcx⟩ := hN.open
    simp only [Value.slice.injEq] at he'
    obtain ⟨rfl, _, rfl⟩ := he'
    obtain ⟨b', o', he', hcl⟩ := hcx (l.length - 1) (by omega)
    simp only [Option.some.injEq, Addr.mk.injEq] at he'
    obtain ⟨rfl, rfl, _⟩ := he'
    have hzb : l.getD (l.length - 1) 0 ≤ 60 := hlb _ (natD_mem (by omega))
    have he : ((l.length : Int) == (k : Int)) = true := beq_iff_eq.2 (by omega)
    have HN := Lib.hid hN
    have HS : Hid (shortN L 0 l = if l.getD (l.length - 1) 0 = L then some l else none) := Lib.hid rfl
    obtain ⟨q, hq⟩ : ∃ q, q = l.length - 1 := ⟨_, rfl⟩
    have hkq : (k:Int) - 1 = (q:Int) := by omega
    rw [← hq] at hcl hzb HS
    have hql : (q:Int) < (l.length : Int) := by omega
    have hq7 : q ≤ 7 := by omega
    clear hcx hN hlb hq hlk
    generalize l.getD q 0 = z at *
    by_cases hz : z = L
    · have d1 : ((z:Int) == (L:Int)) = true := beq_iff_eq.2 (by omega)
      have HP : Hid (SPost (shortN L 0 l) w (.returned (.slice (some ⟨b, o, none⟩) l.length cap)) w) := Lib.hid (by
        rw [HS.out, if_pos hz]
        exact ⟨Below.refl _ _, b, o, _, _, rfl, HN.out⟩)
      clear hz
      go_enter Try.func86, Try.ntmps86
      go_wp2
      go_ret
      exact HP.out
    · have d1 : ((z:Int) == (L:Int)) = false := beq_eq_false_iff_ne.2 (by omega)
      have HP : Hid (SPost (shortN L 0 l) w (.returned (.slice none 0 0)) w) := Lib.hid (by
        rw [HS.out, if_neg hz]
        exact ⟨Below.refl _ _, rfl⟩)
      clear hz
      go_enter Try.func86, Try.ntmps86
      go_wp2
      go_ret
      exact HP.out
  | succ m ih =>
    intro l b o cap w hlk h0 hlb hN
    have hp : 0 < l.length := List.length_pos_iff.2 h0
    obtain ⟨ao, cap', he', hc1, hc2, hcx⟩ := hN.open
    simp only [Value.slice.injEq] at he'
    obtain ⟨rfl, _, rfl⟩ := he'
    obtain ⟨b', o', he', hcl⟩ := hcx (l.length - 1) (by omega)
    simp only [Option.some.injEq, Addr.mk.injEq] at he'
    obtain ⟨rfl, rfl, _⟩ := he'
    have hzb : l.getD (l.length - 1) 0 ≤ 60 := hlb _ (natD_mem (by omega))
    have he : ((l.length : Int) == (k : Int)) = false := beq_eq_false_iff_ne.2 (by omega)
    obtain ⟨F, hF⟩ : ∃ F, F = shortN L (m + 1) l := ⟨_, rfl⟩
    rw [← hF]
    have HF : Hid (F = restS L m l (l.getD (l.length - 1) 0 + 1)) := Lib.hid (by rw [hF, restS_start])
    have HCell : Hid (∀ j u, (ints (nats l))[j]? = some u → w.cell? ⟨b, o + j, none⟩ = some u) := Lib.hid fun j u hj => by
      have hlt : j < l.length := by have := (List.getElem?_eq_some_iff.1 hj).1; rwa [ints_length, nats_length] at this
      obtain ⟨b', o', he', hc⟩ := hcx j hlt
      simp only [Option.some.injEq, Addr.mk.injEq] at he'
      obtain ⟨rfl, rfl, _⟩ := he'
      rw [hc, ← hj]
      simp [ints, nats, hlt]
    have HIH := Lib.hid ih
    have HLb := Lib.hid hlb
    have HLk := Lib.hid hlk
    have hl7 : l.length ≤ 7 := by omega
    have hlm : ((l.length : Int) - 1).toNat = l.length - 1 := by omega
    obtain ⟨i0, hi, hz0, hz1, hz2⟩ := info_parts Try.info3
    have hnil := fun (w : World) (a : Option Addr) (n c n' c' : Nat) => run_neq_slice_nil_any (P := Try.prog) w 22 3 a n c n' c' Try.underlying22
    clear hF ih hcx hlb hlk hN
    generalize l.getD (l.length - 1) 0 = z at *
    go_enter Try.func86, Try.ntmps86
    go_wp2_with fail
    clear hcl
    go_loopw [7] (fun i wr => ∃ x : Nat, x ≤ 61 ∧ i = .int .i64 x ∧ F = restS L m l x ∧ Below w.heap.size w wr) (fun i _ => L + 1 - (intOf i).toNat)
    case atStart => exact ⟨z + 1, by omega, by go_num, HF.out, Below.refl _ _⟩
    case round =>
      obtain ⟨x, hx61, rfl, hFx, hb⟩ := hrel
      have HFx := Lib.hid hFx
      have HB := Lib.hid hb
      clear hFx hb
      by_cases hlt : x ≤ L
      · have HNo := Lib.hid (fun (h : (if rulB (l ++ [x]) then shortN L m (l ++ [x]) else none) = none) => restS_no hlt h)
        have HYes := Lib.hid (fun r (h : (if rulB (l ++ [x]) then shortN L m (l ++ [x]) else none) = some r) => restS_yes hlt h)
        go_wp2_with (at_builtin; refine wpList_append_grows _ rfl _ _ 22 rfl 3 i0 (.int .i64 0) 1 8 Try.underlying22 hi hz0 hz1 hz2 rfl (by decide) _ _ _ (ints (nats l)) rfl (fun e => by cases e) (by rw [ints_length, nats_length, Nat.mul_one]) (fun b0 hb0 j u hu => by (cases hb0; rw [Addr.add_lit]; exact alloc_cell' _ (ck (HCell.out j u hu) HB.out))) ⟨wr.heap.size, 0, none⟩ 1 1 [.int .i64 x] rfl rfl (newOne _ _ _) (oneInt _) (by omega) (by unfold maxLen; omega) (by omega) ?_)
        intro v3 w3 hown3 hgrow3
        have HO3 : Hid (w3.ownsRow wr.heap.size 3 1 v3 (l ++ [x]).length (ints (nats (l ++ [x])))) := Lib.hid (owns_mono (own_len hown3 (by simp) (by simp [ints, nats])) (by simp))
        obtain ⟨g3, c3, rfl, _, _⟩ := owns_some hown3
        have HB3 : Hid (Below w.heap.size w w3) := Lib.hid (HB.out.trans ((((Below.refl wr.heap.size wr).alloc (Nat.le_refl _) _).grown hgrow3 (by simp) (by intro k hk; cases hk)).mono HB.out.size))
        have HN3 : Hid (Nats w3 (.slice (some ⟨g3, 0, none⟩) (l.length + 1) c3) (l ++ [x])) := Lib.hid (by
          have := Nats.of_owns HO3.out (by simp; omega) (fun y hy => by
            simp at hy
            rcases hy with hy | rfl
            · have := HLb.out y hy; omega
            · omega)
          exact this)
        have HRu := Lib.hid (rRuler_any (.slice (some ⟨g3, 0, none⟩) (l.length + 1) c3) (l ++ [x]) w3 (fun y hy => by
            simp at hy
            rcases hy with hy | rfl
            · have := HLb.out y hy; omega
            · omega) (by simp) (by simp; omega) HN3.out)
        clear hown3 hgrow3 HO3
        cases hr : rulB (l ++ [x]) with
        | false =>
          have HN1 := Lib.hid (HNo.out (by rw [hr]; rfl))
          rw [hr] at HRu
          clear hr HNo HYes
          go_wp2_with fail
          refine HRu.out.mono ?_
          rintro e w4 ⟨rfl, hb4⟩
          have HB4 := Lib.hid (HB3.out.trans (hb4.mono HB3.out.size))
          have HF4 : Hid (F = restS L m l (x + 1)) := Lib.hid (by rw [HFx.out, HN1.out])
          clear hb4
          go_wp2
          go_roundw
          case rel => exact ⟨x + 1, by omega, by go_num, HF4.out, HB4.out⟩
          case measure => simp [intOf]; omega
        | true =>
          rw [hr] at HRu
          have HNo2 := Lib.hid (fun (h : shortN L m (l ++ [x]) = none) => HNo.out (by rw [hr]; exact h))
          have HYes2 := Lib.hid (fun r (h : shortN L m (l ++ [x]) = some r) => HYes.out r (by rw [hr]; exact h))
          clear hr HNo HYes
          go_wp2_with fail
          refine HRu.out.mono ?_
          rintro e w4 ⟨rfl, hb4⟩
          have HB4 := Lib.hid (HB3.out.trans (hb4.mono HB3.out.size))
          have hc9 := HIH.out (l ++ [x]) g3 0 c3 w4 (by simp; have := HLk.out; omega) (by simp) (fun y hy => by
            simp at hy
            rcases hy with hy | rfl
            · have := HLb.out y hy; omega
            · omega) (by simpa using HN3.out.below hb4 (Nat.le_refl _))
          rw [List.length_append, List.length_singleton] at hc9
          have HC9 := Lib.hid hc9
          clear hb4 hc9 HRu HN3
          cases ho : shortN L m (l ++ [x]) with
          | some r =>
            have HFr := Lib.hid (HYes2.out r ho)
            rw [ho] at HC9
            clear ho HNo2 HYes2
            go_wp2_with fail
            refine HC9.out.mono ?_
            intro e w6 hp6
            obtain ⟨hb6, b6, o6, n6, c6, rfl, hn6⟩ := (show Below w4.heap.size w4 w6 ∧ ∃ b o n c, e = .returned (.slice (some ⟨b, o, none⟩) n c) ∧ Nats w6 (.slice (some ⟨b, o, none⟩) n c) r from hp6)
            have HFF : Hid (SPost F w (.returned (.slice (some ⟨b6, o6, none⟩) n6 c6)) w6) := Lib.hid (by
              rw [HFx.out, HFr.out]
              exact ⟨HB4.out.trans (hb6.mono HB4.out.size), b6, o6, n6, c6, rfl, hn6⟩)
            clear hp6 hb6 hn6
            go_wp2
            go_ret
            exact HFF.out
          | none =>
            have HFr := Lib.hid (HNo2.out ho)
            rw [ho] at HC9
            clear ho HNo2 HYes2
            go_wp2_with fail
            refine HC9.out.mono ?_
            intro e w6 hp6
            obtain ⟨hb6, rfl⟩ := (show Below w4.heap.size w4 w6 ∧ e = .returned (.slice none 0 0) from hp6)
            have HB6 := Lib.hid (HB4.out.trans (hb6.mono HB4.out.size))
            have HF6 : Hid (F = restS L m l (x + 1)) := Lib.hid (by rw [HFx.out, HFr.out])
            clear hp6 hb6
            go_wp2
            go_roundw
            case rel => exact ⟨x + 1, by omega, by go_num, HF6.out, HB6.out⟩
            case measure => simp [intOf]; omega
      · have HFF : Hid (SPost F w (.returned (.slice none 0 0)) wr) := Lib.hid (by
          rw [HFx.out, restS_end (by omega)]
          exact ⟨HB.out, rfl⟩)
        go_wp2
        go_ret
        exact HFF.out

theorem nats_one (w : World) : Nats (w.alloc (.cells #[.int .i64 0] 3)) (.slice (some ⟨w.heap.size, 0, none⟩) 1 1) [0] := by
  refine ⟨⟨_, 1, rfl, Nat.le_refl _, by simp [ints, nats], by unfold maxLen; omega, .inr ⟨w.heap.size, 0, rfl, by simp, fun k x hk => ?_⟩⟩, by simp [nats, I64]⟩
  have hb := heap_alloc_new w (.cells #[.int .i64 0] 3)
  simp only [World.cell?, hb]
  match k, hk with
  | 0, hk => simpa [ints, nats] using hk

set_option maxHeartbeats 2000000 in
theorem rShort_any (k L : Nat) (r : List Nat) (w : World) (h1 : 1 ≤ k) (h7 : k ≤ 7) (hL : L ≤ 25) (hno : ∀ L', L' < L → firstN (ruleOf rulB) (L' + 1) k [] = none) (hyes : firstN (ruleOf rulB) (L + 1) k [] = some r) :
    Calls Try.prog 50 #[.int .i64 k] w fun e w' => ∃ v', e = .returned v' ∧ Nats w' v' r ∧ Below w.heap.size w w' := by
  obtain ⟨j, hj⟩ : ∃ j, k = j + 1 := ⟨k - 1, by omega⟩
  have HSh : Hid (∀ (t : Nat) (w : World), t ≤ 25 → Calls Try.prog 86 #[.int .i64 k, .int .i64 t, .slice (some ⟨w.heap.size, 0, none⟩) 1 1] (w.alloc (.cells #[.int .i64 0] 3)) (SPost (shortN t j [0]) (w.alloc (.cells #[.int .i64 0] 3)))) :=
    Lib.hid fun t w ht => short_any k t h7 (by omega) j [0] w.heap.size 0 1 (w.alloc (.cells #[.int .i64 0] 3)) (by simp; omega) (by simp) (by simp) (nats_one w)
  have HNo : Hid (∀ t, t < L → shortN t j [0] = none) := Lib.hid fun t ht => by
    subst hj
    rw [short_same j t fun L' hL' => hno L' (by omega)]
    exact hno t ht
  have HYes : Hid (shortN L j [0] = some r) := Lib.hid (by subst hj; rw [short_same j L hno, hyes])
  have hnil := fun (w : World) (a : Option Addr) (n c n' c' : Nat) => run_neq_slice_nil_any (P := Try.prog) w 22 3 a n c n' c' Try.underlying22
  clear hno hyes hj
  go_enter Try.func50, Try.ntmps50
  go_wp2_with fail
  go_loopw [3] (fun i wr => ∃ t : Nat, t ≤ L ∧ i = .int .i64 t ∧ Below w.heap.size w wr) (fun i _ => L + 1 - (intOf i).toNat)
  case atStart => exact ⟨0, Nat.zero_le _, rfl, Below.refl _ _⟩
  case round =>
    obtain ⟨t, ht, rfl, hb⟩ := hrel
    have HB := Lib.hid hb
    clear hb
    have HS1 := Lib.hid (HSh.out t wr (by omega))
    by_cases e : t < L
    · have hn := HNo.out t e
      rw [hn] at HS1
      clear hn
      go_wp2_with fail
      refine HS1.out.mono ?_
      intro e w6 hp6
      obtain ⟨hb6, rfl⟩ := (show Below (wr.alloc (.cells #[.int .i64 0] 3)).heap.size (wr.alloc (.cells #[.int .i64 0] 3)) w6 ∧ e = .returned (.slice none 0 0) from hp6)
      have HB6 : Hid (Below w.heap.size w w6) := Lib.hid (HB.out.trans ((((Below.refl wr.heap.size wr).alloc (Nat.le_refl _) _).trans (hb6.mono (by simp))).mono HB.out.size))
      clear hp6 hb6
      go_wp2
      go_roundw
      case rel => exact ⟨t + 1, by omega, by go_num, HB6.out⟩
      case measure => simp [intOf]; omega
    · obtain rfl : t = L := by omega
      have hn := HYes.out
      rw [hn] at HS1
      clear hn
      go_wp2_with fail
      refine HS1.out.mono ?_
      intro e w6 hp6
      obtain ⟨hb6, b6, o6, n6, c6, rfl, hn6⟩ := (show Below (wr.alloc (.cells #[.int .i64 0] 3)).heap.size (wr.alloc (.cells #[.int .i64 0] 3)) w6 ∧ ∃ b o n c, e = .returned (.slice (some ⟨b, o, none⟩) n c) ∧ Nats w6 (.slice (some ⟨b, o, none⟩) n c) r from hp6)
      have HB6 : Hid (Below w.heap.size w w6) := Lib.hid (HB.out.trans ((((Below.refl wr.heap.size wr).alloc (Nat.le_refl _) _).trans (hb6.mono (by simp))).mono HB.out.size))
      have HV := Lib.hid hn6
      clear hp6 hb6 hn6
      go_wp2
      go_ret
      exact ⟨_, rfl, HV.out, HB6.out⟩
end Go.Proofs.Ytlalfjkenkmojaa
