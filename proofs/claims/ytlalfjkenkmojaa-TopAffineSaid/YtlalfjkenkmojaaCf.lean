/- fits, the reference's Free; Cap, Free -/
import Derived.Test.YtlalfjkenkmojaaCd
namespace Go.Proofs.Ytlalfjkenkmojaa
open Go.RowKit

theorem mayRule (d : Nat) (hd : d ≤ 4) : Rule 64 #[.int .i64 d] (mayB d) (fun l x => x ≤ 81 ∧ ∀ y ∈ l, y ≤ 81) :=
  ⟨enters_of Try.func64 (by kernel_rfl) rfl, fun v l x w h hD => (mayAdd_any d x v l w hd hD.1 hD.2 h).mono fun _ _ ⟨he, hw⟩ => ⟨he, by subst hw; exact Below.refl _ _⟩⟩

def capB (d : Nat) (l : List Nat) : Bool := keepsL (mayB d) l

set_option maxHeartbeats 1000000 in
theorem Cap_bad (d : Int) (v : Value) (xs : List Int) (w : World) (h : Ints w v xs) (hb : deckB d xs = false) : Calls Try.prog 26 #[.int .i64 d, v] w fun e w' => e = .returned (.tuple #[.bool false, .int .i64 2]) ∧ w = w' := by
  have HA := Lib.hid (areCards_any d v xs w h)
  rw [hb] at HA
  clear h hb
  go_enter Try.func26, Try.ntmps26
  go_wp2_with fail
  refine HA.out.mono ?_
  rintro e w' ⟨rfl, rfl⟩
  go_wp2
  go_ret2
  exact ⟨rfl, rfl⟩
set_option maxHeartbeats 1000000 in
theorem Free_bad (d : Int) (v : Value) (xs : List Int) (w : World) (h : Ints w v xs) (hb : deckB d xs = false) : Calls Try.prog 27 #[.int .i64 d, v] w fun e w' => e = .returned (.tuple #[.slice none 0 0, .int .i64 2]) ∧ w = w' := by
  have HA := Lib.hid (areCards_any d v xs w h)
  rw [hb] at HA
  clear h hb
  go_enter Try.func27, Try.ntmps27
  go_wp2_with fail
  refine HA.out.mono ?_
  rintro e w' ⟨rfl, rfl⟩
  go_wp2
  go_ret2
  exact ⟨rfl, rfl⟩

theorem deck_mk {d : Nat} {l : List Nat} (h1 : 1 ≤ d) (hd : d ≤ 4) (h : Deck d l) : deckB d (nats l) = true := by
  have hdim : dimB (d:Int) = true := decide_eq_true (by omega)
  have hsz : sizeI (d:Int) = 3 ^ d := by
    obtain ⟨n, e, _, _, hs⟩ := dimB_of hdim
    obtain rfl : d = n := by omega
    exact hs
  unfold deckB
  rw [hdim, hsz, Bool.true_and]
  exact nats_rise (a := 0) h.1 fun x hx => ⟨Nat.zero_le _, h.2 x hx⟩
theorem take_le81 {l : List Nat} (h : ∀ x ∈ l, x ≤ 81) (k : Nat) : ∀ x ∈ l.take k, x ≤ 81 := fun x hx => h x (List.mem_of_mem_take hx)

theorem keepsCap_any (d : Nat) (v : Value) (l : List Nat) (w : World) (hd : d ≤ 4) (hk : Deck d l) (h : Nats w v l) : Calls Try.prog 63 #[.func (.func 64) #[.int .i64 d] #[], v] w fun e w' => e = .returned (.bool (capB d l)) ∧ Below w.heap.size w w' :=
  keepsTo_any (mayRule d hd) v l w h fun _ hkl _ => ⟨hk.bd hd _ (natD_mem hkl), take_le81 (hk.bd hd) _⟩

set_option maxHeartbeats 1000000 in
theorem Cap_any (d : Nat) (v : Value) (l : List Nat) (w : World) (h1 : 1 ≤ d) (hd : d ≤ 4) (hk : Deck d l) (h : Nats w v l) :
    Calls Try.prog 26 #[.int .i64 d, v] w fun e w' => e = .returned (.tuple #[.bool (capB d l), .int .i64 0]) ∧ Below w.heap.size w w' := by
  have HA := Lib.hid (areCards_any d v _ w h)
  rw [deck_mk h1 hd hk] at HA
  have HK := Lib.hid (keepsCap_any d v l w hd hk h)
  clear h
  generalize capB d l = q at *
  go_enter Try.func26, Try.ntmps26
  go_wp2_with fail
  refine HA.out.mono ?_
  rintro e w' ⟨rfl, rfl⟩
  go_wp2_with fail
  refine HK.out.mono ?_
  rintro e w1 ⟨rfl, hb1⟩
  have HB1 := Lib.hid hb1
  clear hb1
  go_wp2
  go_ret2
  exact ⟨rfl, HB1.out⟩

/-- The cards that can be added. -/
def freeL (d : Nat) (l : List Nat) : List Nat := (List.range' 0 (3 ^ d)).filter (mayB d l)
theorem freeL_len (d : Nat) (l : List Nat) (hd : d ≤ 4) : (freeL d l).length ≤ 81 := by
  unfold freeL
  have := List.length_filter_le (mayB d l) (List.range' 0 (3 ^ d))
  rw [List.length_range'] at this
  have := p3 d hd
  omega
theorem freeL_bd (d : Nat) (l : List Nat) : ∀ x ∈ freeL d l, x < 3 ^ d := fun x hx => by
  have := (List.mem_filter.1 hx).1
  rw [List.mem_range'_1] at this
  omega
theorem range'_bd (n : Nat) : ∀ x ∈ List.range' 0 n, x < n := fun x hx => by rw [List.mem_range'_1] at hx; omega

set_option maxHeartbeats 1000000 in
theorem Free_no (d : Nat) (v : Value) (l : List Nat) (w : World) (h1 : 1 ≤ d) (hd : d ≤ 4) (hk : Deck d l) (h : Nats w v l) (hc : capB d l = false) :
    Calls Try.prog 27 #[.int .i64 d, v] w fun e w' => e = .returned (.tuple #[.slice none 0 0, .int .i64 5]) ∧ Below w.heap.size w w' := by
  have HA := Lib.hid (areCards_any d v _ w h)
  rw [deck_mk h1 hd hk] at HA
  have HK := Lib.hid (keepsCap_any d v l w hd hk h)
  rw [hc] at HK
  clear h hc
  go_enter Try.func27, Try.ntmps27
  go_wp2_with fail
  refine HA.out.mono ?_
  rintro e w' ⟨rfl, rfl⟩
  go_wp2_with fail
  refine HK.out.mono ?_
  rintro e w1 ⟨rfl, hb1⟩
  have HB1 := Lib.hid hb1
  clear hb1
  go_wp2
  go_ret2
  exact ⟨rfl, HB1.out⟩
set_option maxHeartbeats 1000000 in
theorem Free_any (d : Nat) (v : Value) (l : List Nat) (w : World) (h1 : 1 ≤ d) (hd : d ≤ 4) (hk : Deck d l) (h : Nats w v l) (hc : capB d l = true) :
    Calls Try.prog 27 #[.int .i64 d, v] w fun e w' => ∃ v', e = .returned (.tuple #[v', .int .i64 0]) ∧ Nats w' v' (freeL d l) ∧ Below w.heap.size w w' := by
  have HA := Lib.hid (areCards_any d v _ w h)
  rw [deck_mk h1 hd hk] at HA
  have HK := Lib.hid (keepsCap_any d v l w hd hk h)
  rw [hc] at HK
  have hp := p3 d hd
  have HS := Lib.hid (fun w => size_any d w hd)
  have HBt := Lib.hid (fun w => between_any 0 (3 ^ d) w (Nat.zero_le _) (by omega))
  have HAd := Lib.hid (fun u w' (hb : Below w.heap.size w w') (hu : Nats w' u (List.range' 0 (3 ^ d))) => addable_any (mayRule d hd) v u l _ w' (h.below hb (Nat.le_refl _)) hu (by rw [List.length_range']; omega)
    (fun x hx => by have := range'_bd _ x hx; omega) (fun x hx => ⟨by have := range'_bd _ x hx; omega, hk.bd hd⟩))
  have HF : Hid (((List.range' 0 (3 ^ d)).filter (mayB d l)) = freeL d l) := Lib.hid rfl
  rw [HF.out] at HAd
  rw [Nat.sub_zero] at HBt
  have HFb : Hid ((freeL d l).length ≤ 17592186044416 ∧ ∀ x ∈ freeL d l, x < 65536) := Lib.hid ⟨by have := freeL_len d l hd; omega, fun x hx => by have := freeL_bd d l x hx; omega⟩
  clear h hc hk hp HF
  generalize freeL d l = fs at *
  generalize 3 ^ d = s at *
  go_enter Try.func27, Try.ntmps27
  go_wp2_with fail
  refine HA.out.mono ?_
  rintro e w' ⟨rfl, rfl⟩
  go_wp2_with fail
  refine HK.out.mono ?_
  rintro e w1 ⟨rfl, hb1⟩
  have HB1 := Lib.hid hb1
  clear hb1
  go_wp2_with fail
  refine (HS.out _).mono ?_
  rintro e w' ⟨rfl, rfl⟩
  go_wp2_with fail
  refine (HBt.out _).mono ?_
  rintro e w2 ⟨v2, rfl, hv2, hb2⟩
  have HB2 := Lib.hid (HB1.out.trans (hb2.mono HB1.out.size))
  have HV2 := Lib.hid hv2
  clear hb2 hv2
  go_wp2_with fail
  refine (HAd.out v2 w2 HB2.out HV2.out).mono ?_
  rintro e w3 ⟨v3, rfl, hv3, hb3⟩
  have HB3 := Lib.hid (HB2.out.trans (hb3.mono HB2.out.size))
  have HV3 := Lib.hid (Nats.of_owns hv3 HFb.out.1 HFb.out.2)
  clear hb3 hv3
  go_wp2
  go_ret2
  exact ⟨_, rfl, HV3.out, HB3.out⟩
end Go.Proofs.Ytlalfjkenkmojaa
