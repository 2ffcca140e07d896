/- list, Conjugate -/
import Derived.Test.YtpblbolflnjjnaaRa
import Derived.Test.YtpblbolflnjjnaaLaw
import Derived.Test.YtpblbolflnjjnaaWe2
namespace Go.Proofs.Ytpblbolflnjjnaa
open Go.RowKit

theorem Ints.take {w : World} {ao : Option Addr} {n cap : Nat} {xs : List Int} (h : Ints w (.slice ao n cap) xs) (m : Nat) (hm : m ≤ n) : Ints w (.slice ao m cap) (xs.take m) := by
  obtain ⟨⟨ao', cap', hv, h1, h2, h3, h4⟩, hb⟩ := h
  simp only [Value.slice.injEq] at hv
  obtain ⟨rfl, rfl, rfl⟩ := hv
  rw [ints_length] at *
  refine ⟨⟨ao, cap, by rw [ints_length, List.length_take, Nat.min_eq_left hm], by rw [ints_length, List.length_take]; omega, by rw [ints_length, List.length_take]; omega, h3, ?_⟩, fun x hx => hb x (List.mem_of_mem_take hx)⟩
  rcases h4 with h4 | ⟨b, o, rfl, hlt, hc⟩
  · left
    have : xs = [] := by cases xs with
      | nil => rfl
      | cons a t => simp [ints] at h4
    subst this; simp [ints]
  · right
    refine ⟨b, o, rfl, hlt, fun k x hx => hc k x ?_⟩
    simp only [ints, List.map_take, List.getElem?_take] at hx
    split at hx
    · exact hx
    · cases hx

set_option maxHeartbeats 400000 in
theorem list_any (v : Value) (zs : List Int) (w : World) (h : Ints w v zs) :
    Calls Try.prog 20 #[v] w fun e w' => ∃ ao c, e = .returned (.slice ao (zs.take 12).length c) ∧ w'.ownsRow w.heap.size 3 1 (.slice ao (zs.take 12).length c) (zs.take 12).length (ints (zs.take 12)) ∧ Below w.heap.size w w' := by
  have h0 := h
  obtain ⟨ao, cap, rfl, h1, h2, hc⟩ := h.open
  by_cases hl : zs.length ≤ 12
  · have e : zs.take 12 = zs := List.take_of_length_le hl
    have HC := hidIt (clone1_any _ zs w h0)
    rw [e]
    clear h h0 hc e
    go_enter Try.func20, Try.ntmps20
    go_wp2_with fail
    refine HC.out.mono ?_
    rintro e w1 ⟨ao', c', rfl, ho, hb⟩
    clear HC
    go_wp2
    go_ret
    exact ⟨_, _, rfl, ho, hb⟩
  · have HC := hidIt (clone1_any _ (zs.take 12) w (h0.take 12 (by omega)))
    have e : (zs.take 12).length = 12 := by simp; omega
    rw [e] at HC ⊢
    clear h h0 hc e
    go_enter Try.func20, Try.ntmps20
    go_wp2_with fail
    refine HC.out.mono ?_
    rintro e w1 ⟨ao', c', rfl, ho, hb⟩
    clear HC
    go_wp2
    go_ret
    exact ⟨_, _, rfl, ho, hb⟩

/-- how many rows are at least c long. -/
def cntS (l : List Int) (c : Int) : Int := ((l.filter fun x => decide (c ≤ x)).length : Nat)
def conjK (l : List Int) (n : Nat) : List Int := (List.range n).map fun (c : Nat) => cntS l ((c : Int) + 1)
/-- the lengths of the columns. -/
def conjS (l : List Int) : List Int := conjK l (l.getD 0 0).toNat

theorem conjK_len (l : List Int) (n : Nat) : (conjK l n).length = n := by simp [conjK]
theorem conjK_succ (l : List Int) (n : Nat) : conjK l (n + 1) = conjK l n ++ [cntS l ((n : Int) + 1)] := by simp [conjK, List.range_succ]
theorem cntS_snoc (l : List Int) (x c : Int) : cntS (l ++ [x]) c = cntS l c + (if c ≤ x then 1 else 0) := by
  unfold cntS
  rw [List.filter_append, List.length_append]
  by_cases h : c ≤ x <;> simp [h]
theorem cntS_bd (l : List Int) (c : Int) : 0 ≤ cntS l c ∧ cntS l c ≤ l.length := by
  unfold cntS
  have := List.length_filter_le (fun x => decide (c ≤ x)) l
  omega

/-- Conjugate's loop behind n rounds. -/
def ConjInv (w : World) (l : List Int) (n : Nat) (v : Value) (wr : World) : Prop :=
  wr.ownsRow w.heap.size 3 1 v n (ints (conjK l n)) ∧ Below w.heap.size w wr

set_option maxRecDepth 100000 in
set_option maxHeartbeats 1000000 in
theorem conj_any (v : Value) (l : List Int) (w : World) (h : Ints w v l) (hr : ∀ x ∈ l, 0 ≤ x ∧ x ≤ 8) (hn : l.length ≤ 100) :
    Calls Try.prog 61 #[v] w fun e w' => ∃ ao c, e = .returned (.slice ao (conjS l).length c) ∧ w'.ownsRow w.heap.size 3 1 (.slice ao (conjS l).length c) (conjS l).length (ints (conjS l)) ∧ Below w.heap.size w w' := by
  obtain ⟨ao, cap, rfl, h1, h2, hc⟩ := h.open
  obtain ⟨i0, hi, hz0, hz1, hz2⟩ := info_parts Try.info3
  have hb0 := list_getD_bd hr 0
  go_enter Try.func61, Try.ntmps61
  go_wp2
  go_loopw [3, 4] (fun s3 s4 wr => ∃ n : Nat, n ≤ (l.getD 0 0).toNat ∧ s4 = .int .i64 ((n : Int) + 1) ∧ ConjInv w l n s3 wr) (fun _ s4 _ => 10 - (intOf s4).toNat)
  case atStart => exact ⟨0, Nat.zero_le _, rfl, World.ownsRow_nil _ _ _ _, Below.refl _ _⟩
  case round =>
    obtain ⟨n, hn1, rfl, hinv⟩ := hrel
    obtain ⟨hown, hb⟩ := hinv
    obtain ⟨av, cv, rfl⟩ := owns_form hown
    have hcw : ∀ k, k < l.length → ∃ b o, ao = some ⟨b, o, none⟩ ∧ wr.cell? ⟨b, o + k, none⟩ = some (.int .i64 (l.getD k 0)) := fun k hk => by
      obtain ⟨b, o, e, hck⟩ := hc k hk
      exact ⟨b, o, e, (hb.cell (p := ⟨b, o + k, none⟩) (World.block_lt_of_cell? w _ hck)).trans hck⟩
    have HCW := hidIt hcw
    have HO := hidIt hown
    have HB := hidIt hb
    clear hcw hc h hown hb
    by_cases hlt : n < (l.getD 0 0).toNat
    · have hpos : 0 < l.length := by
        rcases Nat.eq_zero_or_pos l.length with h0 | h0
        · rw [getD_over (by omega)] at hlt; simp at hlt
        · exact h0
      obtain ⟨b, o, rfl, hc0⟩ := HCW.out 0 hpos
      rw [Nat.add_zero] at hc0
      obtain ⟨z, hz⟩ : ∃ z, z = l.getD 0 0 := ⟨_, rfl⟩
      rw [← hz] at hc0 hlt hb0 hn1
      have HZ := hidIt hz
      clear hz
      have hle : (n : Int) + 1 ≤ z := by omega
      have HLT := hidIt hlt
      have HN1 := hidIt hn1
      have hn8 : n < 8 := by omega
      clear hlt hn1
      go_wp2
      go_loop [5, 22] (fun s5 s22 => ∃ k : Nat, k ≤ l.length ∧ s22 = .int .i64 k ∧ s5 = .int .i64 (cntS (l.take k) ((n : Int) + 1))) (fun _ s22 => l.length - (intOf s22).toNat)
      case atStart => exact ⟨0, Nat.zero_le _, rfl, rfl⟩
      case round =>
        obtain ⟨k, hk, rfl, rfl⟩ := hrel
        by_cases hkl : k < l.length
        · obtain ⟨b', o', e, hck⟩ := HCW.out k hkl
          obtain ⟨rfl, rfl⟩ : b = b' ∧ o = o' := by simpa using e
          have hcb := cntS_bd (l.take k) ((n : Int) + 1)
          have hcl : (l.take k).length ≤ k := List.length_take_le _ _
          have HS : Hid (cntS (l.take (k+1)) ((n : Int) + 1) = cntS (l.take k) ((n : Int) + 1) + (if ((n : Int) + 1) ≤ l.getD k 0 then 1 else 0)) := by
            rw [take_snoc l k hkl, cntS_snoc]; rfl
          generalize cntS (l.take k) ((n : Int) + 1) = q at *
          generalize l.getD k 0 = y at *
          clear e hc0
          go_wp2
          all_goals
            go_round
            case rel => exact ⟨k + 1, by omega, by go_num, by rw [HS.out]; first | rw [if_pos (by assumption)] | (rw [if_neg (by omega)]; simp)⟩
            case measure => simp [intOf]; omega
        · obtain rfl : k = l.length := by omega
          rw [List.take_length]
          have hcb := cntS_bd l ((n : Int) + 1)
          have HK := hidIt (conjK_succ l n)
          generalize cntS l ((n : Int) + 1) = q at *
          clear hc0
          go_wp2_with (at_builtin; go_must (refine wpList_append_own _ rfl _ _ 22 rfl w.heap.size 3 i0 (.int .i64 0) 1 8 Try.underlying22 hi hz0 hz1 hz2 rfl (by decide) _ _ _ rfl (HO.out.alloc _) ⟨wr.heap.size, 0, none⟩ 1 1 [.int .i64 q] rfl rfl (newOne _ _ _) (oneInt _) (by unfold maxLen; omega) (by omega) (Nat.le_trans HB.out.size (by simp)) ?_))
          intro v' w1 hown' hg' _
          have HI : Hid (ConjInv w l (n + 1) v' w1) := by
            refine ⟨?_, (HB.out.alloc HB.out.size _).grown hg' (Nat.le_trans HB.out.size (by simp)) (fun k hk => (HO.out.lt k hk).1)⟩
            rw [HK.out]; simpa [ints] using hown'
          clear hown' hg'
          go_wp2
          go_roundw
          case rel => exact ⟨n + 1, by have := HLT.out; rw [← HZ.out]; omega, by go_num, HI.out⟩
          case measure => simp [intOf]; omega
    · have HN : Hid (n = (conjS l).length ∧ conjK l n = conjS l) := by
        have hne : n = (l.getD 0 0).toNat := by omega
        subst hne
        exact ⟨by rw [conjS, conjK_len], rfl⟩
      rcases Nat.eq_zero_or_pos l.length with h0 | h0
      · have hlz : ((l.length : Int) > 0) = False := by simp [h0]
        obtain rfl : l = [] := List.eq_nil_of_length_eq_zero h0
        clear hb0 h1 h2 hlz h0
        simp only [List.length_nil] at *
        go_wp2
        go_ret
        have h := HN.out
        rw [h.2, h.1] at HO
        rw [h.1]
        exact ⟨_, _, rfl, HO.out, HB.out⟩
      · obtain ⟨b, o, rfl, hc0⟩ := HCW.out 0 h0
        rw [Nat.add_zero] at hc0
        obtain ⟨z, hz⟩ : ∃ z, z = l.getD 0 0 := ⟨_, rfl⟩
        rw [← hz] at hc0 hlt hb0 hn1
        have hle : ¬ ((n : Int) + 1 ≤ z) := by omega
        have hn8 : n ≤ 8 := by omega
        clear hlt hn1 hz
        go_wp2
        go_ret
        have h := HN.out
        rw [h.2, h.1] at HO
        rw [h.1]
        exact ⟨_, _, rfl, HO.out, HB.out⟩
end Go.Proofs.Ytpblbolflnjjnaa
