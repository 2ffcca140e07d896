/- the reference's Paint; Waerden; CapsSchur, CapsWaerden: the walks -/
import Derived.Test.YtlalfjkenkmojaaPg
namespace Go.Proofs.Ytlalfjkenkmojaa
open Go.RowKit

/-- What a call of paint leaves. -/
def PPost (g base n : Nat) (l : List Nat) (F : Option (List Nat)) (w : World) (e : Ending) (w' : World) : Prop :=
  match F with
  | some r => e = .returned (.slice (some ⟨g, 0, none⟩) n 40) ∧ w'.ownsRow base 3 1 (.slice (some ⟨g, 0, none⟩) n 40) n (ints (nats r)) ∧ Mod (· = g) w w'
  | none => e = .returned (.slice none 0 0) ∧ w'.ownsRow base 3 1 (.slice (some ⟨g, 0, none⟩) l.length 40) l.length (ints (nats l)) ∧ Mod (· = g) w w'

set_option maxHeartbeats 4000000 in
set_option maxRecDepth 100000 in
theorem paint_any (k n c g base : Nat) (hk : k = 0 ∨ k = 3 ∨ k = 4) (hn : n ≤ 40) (hc : c ≤ 3) (m : Nat) :
    ∀ (l : List Nat) (w : World), l.length + m = n → (∀ z ∈ l, z < c) → base ≤ w.heap.size → base ≤ g → w.ownsRow base 3 1 (.slice (some ⟨g, 0, none⟩) l.length 40) l.length (ints (nats l)) →
      Calls Try.prog 82 #[.int .i64 n, .int .i64 c, .int .i64 k, .slice (some ⟨g, 0, none⟩) l.length 40] w (PPost g base n l (firstN (ruleK k) c m l) w) := by
  induction m with
  | zero =>
    intro l w hl _ _ _ ho
    have he : ((l.length : Int) == (n : Int)) = true := beq_iff_eq.2 (by omega)
    have HP : Hid (PPost g base n l (some l) w (.returned (.slice (some ⟨g, 0, none⟩) l.length 40)) w) := Lib.hid (by
      have hln : l.length = n := by omega
      unfold PPost
      rw [hln] at ho ⊢
      exact ⟨rfl, ho, Mod.refl _ _⟩)
    rw [first_leaf]
    clear ho hl
    go_enter Try.func82, Try.ntmps82
    go_wp2
    go_ret
    exact HP.out
  | succ m ih =>
    intro l w hl hlc hb hbg ho
    have he : ((l.length : Int) == (n : Int)) = false := beq_eq_false_iff_ne.2 (by omega)
    obtain ⟨F, hF⟩ : ∃ F, F = firstN (ruleK k) c (m + 1) l := ⟨_, rfl⟩
    rw [← hF]
    have HF : Hid (F = restF (ruleK k) c m l 0) := Lib.hid (by rw [hF, restF_zero])
    have HO0 := Lib.hid ho
    have HIH := Lib.hid ih
    have HLc := Lib.hid hlc
    have HLk := Lib.hid hl
    have HK := Lib.hid hk
    have hl40 : l.length + 1 ≤ 40 := by omega
    obtain ⟨i0, hi, hz0, hz1, hz2⟩ := info_parts Try.info3
    have hnil := fun (w : World) (a : Option Addr) (n c n' c' : Nat) => run_neq_slice_nil_any (P := Try.prog) w 22 3 a n c n' c' Try.underlying22
    clear hF ho ih hlc hl hk
    go_enter Try.func82, Try.ntmps82
    go_wp2_with fail
    go_loopw [18] (fun i wr => ∃ x : Nat, x ≤ c ∧ i = .int .i64 x ∧ wr.ownsRow base 3 1 (.slice (some ⟨g, 0, none⟩) l.length 40) l.length (ints (nats l)) ∧ F = restF (ruleK k) c m l x ∧ Mod (· = g) w wr) (fun i _ => c - (intOf i).toNat)
    case atStart => exact ⟨0, Nat.zero_le _, rfl, HO0.out, HF.out, Mod.refl _ _⟩
    case round =>
      obtain ⟨x, hx, rfl, hO, hFx, hMd⟩ := hrel
      have HO := Lib.hid hO
      have HFx := Lib.hid hFx
      have HMd := Lib.hid hMd
      have hsz := hMd.size
      clear hO hFx hMd
      by_cases hlt : x < c
      · have HNo := Lib.hid (fun (h : (if ruleK k l x then firstN (ruleK k) c m (l ++ [x]) else none) = none) => restF_no (f := ruleK k) (n := c) (m := m) (l := l) hlt h)
        have HYes := Lib.hid (fun r (h : (if ruleK k l x then firstN (ruleK k) c m (l ++ [x]) else none) = some r) => restF_yes (f := ruleK k) (n := c) (m := m) (l := l) hlt h)
        go_wp2_with (at_builtin; refine wpList_append_fits _ rfl _ _ 22 rfl base 3 i0 1 Try.underlying22 hi hz1 g l.length 40 _ rfl (HO.out.alloc _) ⟨wr.heap.size, 0, none⟩ 1 1 [.int .i64 x] rfl rfl (newOne _ _ _) (oneInt _) (by omega) ?_)
        intro w3 hown3 hgrow3
        have HM3 := Lib.hid ((HMd.out.alloc _).trans (grown_mod hgrow3) fun k h => .inl (Option.some.inj h).symm)
        have HO3 : Hid (w3.ownsRow base 3 1 (.slice (some ⟨g, 0, none⟩) (l.length + 1) 40) (l ++ [x]).length (ints (nats (l ++ [x])))) := Lib.hid (own_len hown3 (by simp) (by simp [ints, nats]))
        have HP := Lib.hid (painted_any k x (.slice (some ⟨g, 0, none⟩) (l.length + 1) 40) l w3 HK.out (by omega) (Nats.of_owns HO3.out (by simp; omega) fun y hy => by
          simp at hy
          rcases hy with hy | rfl
          · have := HLc.out y hy; omega
          · omega))
        clear hown3 hgrow3 hi hz0 hz1 hz2 HO HMd
        cases hr : ruleK k l x with
        | false =>
          have HN1 := Lib.hid (HNo.out (by rw [hr]; rfl))
          rw [hr] at HP
          clear hr HNo HYes HIH
          go_wp2_with fail
          refine HP.out.mono ?_
          rintro e w4 ⟨rfl, hb4⟩
          have HO4 : Hid (w4.ownsRow base 3 1 (.slice (some ⟨g, 0, none⟩) l.length 40) l.length (ints (nats l))) := Lib.hid (owns_pop (y := .int .i64 x) (own_len (owns_below HO3.out hb4 (Nat.le_refl _)) (by simp) (by simp [ints, nats])))
          have HM4 := Lib.hid (HM3.out.trans (mod_of_below' hb4) fun k h => .inl h)
          have HF4 : Hid (F = restF (ruleK k) c m l (x + 1)) := Lib.hid (by rw [HFx.out, HN1.out])
          clear hb4
          go_wp2
          go_roundw
          case rel => exact ⟨x + 1, by omega, by go_num, HO4.out, HF4.out, HM4.out⟩
          case measure => simp [intOf]; omega
        | true =>
          rw [hr] at HP
          have HNo2 := Lib.hid (fun (h : firstN (ruleK k) c m (l ++ [x]) = none) => HNo.out (by rw [hr]; exact h))
          have HYes2 := Lib.hid (fun r (h : firstN (ruleK k) c m (l ++ [x]) = some r) => HYes.out r (by rw [hr]; exact h))
          clear hr HNo HYes
          go_wp2_with fail
          refine HP.out.mono ?_
          rintro e w4 ⟨rfl, hb4⟩
          have HO4 := Lib.hid (owns_below HO3.out hb4 (Nat.le_refl _))
          have HM4 := Lib.hid (HM3.out.trans (mod_of_below' hb4) fun k h => .inl h)
          have hc9 := HIH.out (l ++ [x]) w4 (by simp; have := HLk.out; omega) (fun z hz => by
            simp at hz
            rcases hz with hz | rfl
            · exact HLc.out z hz
            · exact hlt) (Nat.le_trans hb HM4.out.size) hbg (by simpa using HO4.out)
          rw [List.length_append, List.length_singleton] at hc9
          have HC9 := Lib.hid hc9
          clear hb4 HIH hc9 HP HO3 HM3
          cases ho : firstN (ruleK k) c m (l ++ [x]) with
          | some r =>
            have HFr := Lib.hid (HYes2.out r ho)
            rw [ho] at HC9
            clear ho HNo2 HYes2
            go_wp2_with fail
            refine HC9.out.mono ?_
            intro e w6 hp
            obtain ⟨rfl, ho6, hm6⟩ := (show e = .returned (.slice (some ⟨g, 0, none⟩) n 40) ∧ w6.ownsRow base 3 1 (.slice (some ⟨g, 0, none⟩) n 40) n (ints (nats r)) ∧ Mod (· = g) w4 w6 from hp)
            have HFF : Hid (PPost g base n l F w (.returned (.slice (some ⟨g, 0, none⟩) n 40)) w6) := Lib.hid (by
              rw [HFx.out, HFr.out]
              exact ⟨rfl, ho6, HM4.out.trans hm6 fun k h => .inl h⟩)
            clear hp ho6 hm6
            go_wp2
            go_ret
            exact HFF.out
          | none =>
            have HFr := Lib.hid (HNo2.out ho)
            rw [ho] at HC9
            clear ho HNo2 HYes2
            go_wp2_with fail
            refine HC9.out.mono ?_
            intro e w6 hp
            obtain ⟨rfl, ho6, hm6⟩ := (show e = .returned (.slice none 0 0) ∧ w6.ownsRow base 3 1 (.slice (some ⟨g, 0, none⟩) (l ++ [x]).length 40) (l ++ [x]).length (ints (nats (l ++ [x]))) ∧ Mod (· = g) w4 w6 from hp)
            have HO6 : Hid (w6.ownsRow base 3 1 (.slice (some ⟨g, 0, none⟩) l.length 40) l.length (ints (nats l))) := Lib.hid (by
              rw [List.length_append, List.length_singleton] at ho6
              exact owns_pop (y := .int .i64 x) (own_len ho6 rfl (by simp [ints, nats])))
            have HM6 := Lib.hid (HM4.out.trans hm6 fun k h => .inl h)
            have HF6 : Hid (F = restF (ruleK k) c m l (x + 1)) := Lib.hid (by rw [HFx.out, HFr.out])
            clear hp ho6 hm6
            go_wp2
            go_roundw
            case rel => exact ⟨x + 1, by omega, by go_num, HO6.out, HF6.out, HM6.out⟩
            case measure => simp [intOf]; omega
      · obtain rfl : x = c := by omega
        have HFF : Hid (PPost g base n l F w (.returned (.slice none 0 0)) wr) := Lib.hid (by
          rw [HFx.out, restF_end]
          exact ⟨rfl, HO.out, HMd.out⟩)
        go_wp2
        go_ret
        exact HFF.out

set_option maxHeartbeats 2000000 in
theorem Paint_any (k n c : Nat) (w : World) (hk : k = 0 ∨ k = 3 ∨ k = 4) (hn : n ≤ 40) (hc : c ≤ 3) :
    Calls Try.prog 46 #[.int .i64 n, .int .i64 c, .int .i64 k] w fun e w' => ∃ v', e = .returned (.tuple #[v', .int .i64 (codeOf (firstN (ruleK k) c n []))]) ∧ Nats w' v' (outL (firstN (ruleK k) c n []) []) ∧ Below w.heap.size w w' := by
  have hmk : ∀ W : World, (Instr.makeSlice 22 (.int .i64 0) (.int .i64 40)).run Try.prog W = .ok (.slice (some ⟨W.heap.size, 0, none⟩) 0 40) (W.alloc (.cells (ints (List.replicate 40 0)).toArray 3)) := fun _ => by kernel_rfl
  have ho : (w.alloc (.cells (ints (List.replicate 40 0)).toArray 3)).ownsRow w.heap.size 3 1 (.slice (some ⟨w.heap.size, 0, none⟩) 0 40) 0 (ints (nats [])) :=
    ⟨rfl, .inr ⟨w.heap.size, 40, _, rfl, Nat.le_refl _, heap_alloc_new w _, by omega, by unfold maxLen; omega, rfl, rfl⟩⟩
  have HC := Lib.hid (paint_any k n c w.heap.size w.heap.size hk hn hc n [] _ (by simp) (by simp) (by simp) (Nat.le_refl _) ho)
  have HBd : Hid (∀ r, firstN (ruleK k) c n [] = some r → r.length = n ∧ ∀ x ∈ r, x < 65536) := Lib.hid fun r hr => by
    obtain ⟨s, hs, hl, hb, _⟩ := firstN_some n hr
    rw [hs]
    exact ⟨by simpa using hl, fun x hx => by have := hb x (by simpa using hx); omega⟩
  have hnil := fun (w : World) (a : Option Addr) (n c n' c' : Nat) => run_neq_slice_nil_any (P := Try.prog) w 22 3 a n c n' c' Try.underlying22
  have HBl : Hid (∀ w', Mod (· = w.heap.size) (w.alloc (.cells (ints (List.replicate 40 0)).toArray 3)) w' → Below w.heap.size w w') := Lib.hid fun w' hm => ((Below.refl _ w).alloc (Nat.le_refl _) _).trans (hm.below (by simp) fun k hk => by omega)
  clear ho
  cases hf : firstN (ruleK k) c n [] with
  | none =>
    rw [hf] at HC
    clear hf HBd
    go_enter Try.func46, Try.ntmps46
    go_wp2_with fail
    refine HC.out.mono ?_
    intro e w6 hp
    obtain ⟨rfl, _, hm6⟩ := (show e = .returned (.slice none 0 0) ∧ _ ∧ Mod (· = w.heap.size) _ w6 from hp)
    have HB := Lib.hid (HBl.out _ hm6)
    clear hp hm6
    go_wp2
    go_ret2
    exact ⟨_, rfl, Nats.nil _, HB.out⟩
  | some r =>
    have hb := HBd.out r hf
    rw [hf] at HC
    clear hf HBd
    go_enter Try.func46, Try.ntmps46
    go_wp2_with fail
    refine HC.out.mono ?_
    intro e w6 hp
    obtain ⟨rfl, ho6, hm6⟩ := (show e = .returned (.slice (some ⟨w.heap.size, 0, none⟩) n 40) ∧ w6.ownsRow w.heap.size 3 1 (.slice (some ⟨w.heap.size, 0, none⟩) n 40) n (ints (nats r)) ∧ Mod (· = w.heap.size) _ w6 from hp)
    have HB := Lib.hid (HBl.out _ hm6)
    have HV : Hid (Nats w6 (.slice (some ⟨w.heap.size, 0, none⟩) n 40) r) := Lib.hid (Ints.of_owns ho6 (by omega) (nats_I64 hb.2))
    clear hp hm6 ho6 hb
    go_wp2
    go_ret2
    exact ⟨_, rfl, HV.out, HB.out⟩
end Go.Proofs.Ytlalfjkenkmojaa
