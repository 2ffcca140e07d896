/- SchurHooks: the walk -/
import Derived.Test.YtpblbolflnjjnaaWl
import Derived.Test.YtpblbolflnjjnaaWo
import Derived.Test.YtpblbolflnjjnaaRb
namespace Go.Proofs.Ytpblbolflnjjnaa
open Go.RowKit

def allW (n : Nat) : Int := (List.range n).foldl (fun (a : Int) (i : Nat) => wrap64 (a * ((i : Int) + 1))) 1
def hookRow (c : List Int) (i : Nat) (x : Int) (k : Nat) (h : Int) : Int := (List.range k).foldl (fun (h : Int) (j : Nat) => wrap64 (h * (x - j + c.getD j 0 - i - 1))) h
def hooksTo (l c : List Int) (n : Nat) : Int := (List.range n).foldl (fun (h : Int) (i : Nat) => hookRow c i (l.getD i 0) (l.getD i 0).toNat h) 1

theorem allW_succ (n : Nat) : allW (n + 1) = wrap64 (allW n * ((n : Int) + 1)) := by simp [allW, List.range_succ]
theorem hookRow_succ (c : List Int) (i : Nat) (x : Int) (k : Nat) (h : Int) : hookRow c i x (k + 1) h = wrap64 (hookRow c i x k h * (x - k + c.getD k 0 - i - 1)) := by simp [hookRow, List.range_succ]
theorem hooksTo_succ (l c : List Int) (n : Nat) : hooksTo l c (n + 1) = hookRow c n (l.getD n 0) (l.getD n 0).toNat (hooksTo l c n) := by simp [hooksTo, List.range_succ]

/-- What is to be reckoned of a shape. -/
structure HookOk (l : List Int) : Prop where
  conj : shB (conjS l) = true
  same : stdS (conjS l) = stdS l
  hooks : wrap64 (stdS l * hooksTo l (conjS l) l.length) = allW (isum l).toNat
  inside : ∀ i, i < l.length → (l.getD i 0).toNat ≤ (conjS l).length

theorem Ints.of_owns {w : World} {B : Nat} {v : Value} {n : Nat} {xs : List Int} (h : w.ownsRow B 3 1 v n (ints xs)) (hn : n ≤ 17592186044416) (hb : ∀ x ∈ xs, I64 x) : Ints w v xs := ⟨Sl.of_owns h hn, hb⟩

theorem small_I64 {xs : List Int} (h : ∀ x ∈ xs, 0 ≤ x ∧ x ≤ 8) : ∀ x ∈ xs, I64 x := fun x hx => by have := h x hx; exact ⟨by omega, by omega⟩

set_option maxHeartbeats 2000000 in
theorem hooks_bad (v : Value) (l : List Int) (w : World) (h : Ints w v l) (hsh : shB l = false) :
    Calls Try.prog 18 #[v] w fun e w' => e = .returned (.bool true) ∧ Below w.heap.size w w' := by
  have hsh2 : shB (l.take 12) = false := by
    by_cases hl : l.length ≤ 12
    · rw [List.take_of_length_le hl]; exact hsh
    · refine decide_eq_false fun hs => ?_
      have := hs.1
      simp at this; omega
  have hb : ∀ x ∈ l.take 12, I64 x := fun x hx => h.2 x (List.mem_of_mem_take hx)
  have hn : (l.take 12).length ≤ 12 := List.length_take_le _ _
  have HL := hidIt (list_any v l w h)
  go_enter Try.func18, Try.ntmps18
  go_wp2_with fail
  refine HL.out.mono ?_
  rintro e w1 ⟨ao, c, rfl, ho, hb1⟩
  have HSt := hidIt (standard_any w1 _ (l.take 12) (Ints.of_owns ho (by omega) hb))
  clear HL ho
  generalize (l.take 12).length = n at *
  go_wp2_with fail
  refine HSt.out.mono ?_
  intro e w2 hq
  unfold StdPost at hq
  rw [hsh2] at hq
  simp only [Bool.false_eq_true, if_false] at hq
  obtain ⟨rfl, hb2⟩ := hq
  have HB2 : Hid (Below w.heap.size w w2) := hb1.trans (hb2.mono hb1.size)
  clear hb1 hb2 HSt
  go_wp2_with fail
  refine (awake_any w2).mono ?_
  rintro e w3 ⟨rfl, hb3⟩
  have HB3 : Hid (Below w.heap.size w w3) := HB2.out.trans (hb3.mono HB2.out.size)
  clear HB2 hb3
  go_wp2
  go_ret
  exact ⟨rfl, HB3.out⟩

set_option maxRecDepth 100000 in
set_option maxHeartbeats 4000000 in
theorem hooks_good (v : Value) (l : List Int) (w : World) (h : Ints w v l) (hs : Shape l) (hk : HookOk l) :
    Calls Try.prog 18 #[v] w fun e w' => e = .returned (.bool true) ∧ Below w.heap.size w w' := by
  have hsh : shB l = true := decide_eq_true hs
  have hl8 : l.length ≤ 8 := hs.1
  have htk : l.take 12 = l := List.take_of_length_le (by omega)
  have hbx : ∀ x ∈ l, 0 ≤ x ∧ x ≤ 8 := fun x hx => ⟨by have := hs.bd x hx; omega, (hs.bd x hx).2⟩
  have hcs : Shape (conjS l) := of_decide_eq_true hk.conj
  have hcbx : ∀ x ∈ conjS l, 0 ≤ x ∧ x ≤ 8 := fun x hx => ⟨by have := hcs.bd x hx; omega, (hcs.bd x hx).2⟩
  have hc8 : (conjS l).length ≤ 8 := hcs.1
  have HK := hidIt hk
  have HBX := hidIt hbx
  have HCBX := hidIt hcbx
  have HL := hidIt (list_any v l w h)
  rw [htk] at HL
  obtain ⟨ao0, cap0, hv, _, _, hc⟩ := h.open
  subst hv
  have HC := hidIt hc
  have H0 := hidIt h
  clear htk hcs hk hs hbx hcbx hc
  go_enter Try.func18, Try.ntmps18
  go_wp2_with fail
  refine HL.out.mono ?_
  rintro e w1 ⟨ao, c, rfl, ho, hb1⟩
  have HSt := hidIt (standard_any w1 _ l (Ints.of_owns ho (by omega) (small_I64 HBX.out)))
  clear HL ho
  go_wp2_with fail
  refine HSt.out.mono ?_
  intro e w2 hq
  unfold StdPost at hq
  rw [hsh] at hq
  simp only [if_true] at hq
  obtain ⟨rfl, hb2⟩ := hq
  have HB2 : Hid (Below w.heap.size w w2) := hb1.trans (hb2.mono hb1.size)
  have HV2 := hidIt (h.below HB2.out (Nat.le_refl _))
  obtain ⟨n, hn⟩ : ∃ n, n = stdS l := ⟨_, rfl⟩
  rw [← hn]
  have HN := hidIt hn
  clear hb1 hb2 HSt hn h
  go_wp2_with fail
  refine (rShape_any _ l w2 HV2.out).mono ?_
  rintro e w2' ⟨rfl, rfl⟩
  rw [hsh]
  go_wp2_with fail
  refine (conj_any _ l w2 HV2.out HBX.out (by omega)).mono ?_
  rintro e w3 ⟨aoc, cc, rfl, hoc, hb3⟩
  have hci := Ints.of_owns hoc (by omega) (small_I64 HCBX.out)
  have HB3 : Hid (Below w.heap.size w w3) := HB2.out.trans (hb3.mono HB2.out.size)
  have HCl := hidIt (clone1_any _ _ w3 hci)
  clear hb3 hoc
  go_wp2_with fail
  refine HCl.out.mono ?_
  rintro e w4 ⟨aod, cd, rfl, hod, hb4⟩
  have HSt2 := hidIt (standard_any w4 _ (conjS l) (Ints.of_owns hod (by omega) (small_I64 HCBX.out)))
  have HCI := hidIt (hci.below hb4 (Nat.le_refl _))
  have HB4 : Hid (Below w.heap.size w w4) := HB3.out.trans (hb4.mono HB3.out.size)
  clear HCl hod hb4 hci
  go_wp2_with fail
  refine HSt2.out.mono ?_
  intro e w5 hq
  unfold StdPost at hq
  rw [HK.out.conj, HK.out.same] at hq
  simp only [if_true] at hq
  obtain ⟨rfl, hb5⟩ := hq
  rw [← HN.out]
  have HCI5 := hidIt (HCI.out.below hb5 (Nat.le_refl _))
  have HB5 : Hid (Below w.heap.size w w5) := HB4.out.trans (hb5.mono HB4.out.size)
  have HV5 := hidIt (H0.out.below HB5.out (Nat.le_refl _))
  clear HSt2 hb5 HCI HB2 HB3 HB4 HV2
  go_wp2_with fail
  have hge := (isum_bd l HBX.out).1
  obtain ⟨m, hm⟩ := Int.eq_ofNat_of_zero_le hge
  have hm8 : m ≤ 8 := by have := (of_decide_eq_true hsh : Shape l).2.2; omega
  have HRS := hidIt (rsum_any _ l w5 HV5.out HBX.out)
  rw [hm] at HRS
  have HM := hidIt hm
  clear hge hm
  refine HRS.out.mono ?_
  rintro e w5' ⟨rfl, rfl⟩
  clear HRS
  have hcw : ∀ k, k < l.length → ∃ b o, ao0 = some ⟨b, o, none⟩ ∧ w5.cell? ⟨b, o + k, none⟩ = some (.int .i64 (l.getD k 0)) := fun k hk => by
    obtain ⟨b, o, e, hck⟩ := HC.out k hk
    exact ⟨b, o, e, (HB5.out.cell (p := ⟨b, o + k, none⟩) (World.block_lt_of_cell? w _ hck)).trans hck⟩
  obtain ⟨aoc', cc', hvc, _, _, hcc⟩ := HCI5.out.open
  simp only [Value.slice.injEq] at hvc
  obtain ⟨rfl, _, rfl⟩ := hvc
  have HCW := hidIt hcw
  have HCC := hidIt hcc
  clear hcw hcc HC HCI5 HV5 H0
  go_wp2_with fail
  go_loop [8, 42] (fun s8 s42 => ∃ k : Nat, k ≤ m ∧ s42 = .int .i64 k ∧ s8 = .int .i64 (allW k)) (fun _ s42 => m - (intOf s42).toNat)
  case atStart => exact ⟨0, Nat.zero_le _, rfl, rfl⟩
  case round =>
    obtain ⟨k, hk, rfl, rfl⟩ := hrel
    by_cases hlt : k < m
    · have HA := hidIt (allW_succ k)
      generalize allW k = a at *
      go_wp2_with fail
      go_round
      case rel => exact ⟨k + 1, by omega, by go_num, by rw [HA.out]⟩
      case measure => simp [intOf]; omega
    · obtain rfl : k = m := by omega
      obtain ⟨al, hal⟩ : ∃ al, al = allW k := ⟨_, rfl⟩
      rw [← hal]
      have HAL := hidIt hal
      clear hal
      go_wp2_with fail
      go_loop [9, 52] (fun s9 s52 => ∃ i : Nat, i ≤ l.length ∧ s52 = .int .i64 i ∧ s9 = .int .i64 (hooksTo l (conjS l) i)) (fun _ s52 => l.length - (intOf s52).toNat)
      case atStart => exact ⟨0, Nat.zero_le _, rfl, rfl⟩
      case round =>
        obtain ⟨i, hi, rfl, rfl⟩ := hrel
        by_cases hil : i < l.length
        · obtain ⟨b, o, rfl, hck⟩ := HCW.out i hil
          have hx := HBX.out _ (getD_mem hil)
          obtain ⟨x, hxe⟩ := Int.eq_ofNat_of_zero_le hx.1
          have HIn := hidIt (HK.out.inside i hil)
          have HS := hidIt (hooksTo_succ l (conjS l) i)
          rw [hxe] at hck hx HIn HS
          rw [Int.toNat_natCast] at HIn HS
          clear hxe
          generalize hooksTo l (conjS l) i = h0 at *
          go_wp2_with fail
          go_loop [9, 58] (fun s9 s58 => ∃ j : Nat, j ≤ x ∧ s58 = .int .i64 j ∧ s9 = .int .i64 (hookRow (conjS l) i x j h0)) (fun _ s58 => x - (intOf s58).toNat)
          case atStart => exact ⟨0, Nat.zero_le _, rfl, rfl⟩
          case round =>
            obtain ⟨j, hj, rfl, rfl⟩ := hrel
            by_cases hjx : j < x
            · have hjc : j < (conjS l).length := by have := HIn.out; omega
              obtain ⟨b', o', rfl, hck'⟩ := HCC.out j hjc
              have hcb := HCBX.out _ (getD_mem hjc)
              have HR := hidIt (hookRow_succ (conjS l) i x j h0)
              generalize hookRow (conjS l) i x j h0 = h1 at *
              generalize (conjS l).getD j 0 = y at *
              go_wp2_with fail
              go_round
              case rel => exact ⟨j + 1, by omega, by go_num, by rw [HR.out]⟩
              case measure => simp [intOf]; omega
            · obtain rfl : j = x := by omega
              go_wp2_with fail
              go_round
              case rel => exact ⟨i + 1, by omega, by go_num, by rw [HS.out]⟩
              case measure => simp [intOf]; omega
        · obtain rfl : i = l.length := by omega
          have HH := hidIt HK.out.hooks
          rw [HM.out, Int.toNat_natCast, ← HN.out, ← HAL.out] at HH
          generalize hooksTo l (conjS l) l.length = hh at *
          have hfin : (wrap64 (n * hh) == al) = true := by rw [HH.out]; simp
          have hnn : (n == n) = true := by simp
          go_wp2_with fail
          refine (awake_any w5).mono ?_
          rintro e w6 ⟨rfl, hb6⟩
          have HB6 : Hid (Below w.heap.size w w6) := HB5.out.trans (hb6.mono HB5.out.size)
          clear hb6
          go_wp2
          go_ret
          exact ⟨rfl, HB6.out⟩
end Go.Proofs.Ytpblbolflnjjnaa
