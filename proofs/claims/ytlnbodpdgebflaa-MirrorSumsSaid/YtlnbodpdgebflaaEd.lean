/- the reference: find; what stands in memory while its table is made -/
import Derived.Test.YtlnbodpdgebflaaEb
import Derived.Test.YtlnbodpdgebflaaEc
namespace Go.Proofs.Ytlnbodpdgebflaa
open Go.RowKit

/-- Slices of numbers in the cells of block b. -/
def Pts (w : World) (b n : Nat) (P : Nat → List Nat) : Prop := ∀ i, i < n → ∃ a c, w.cell? ⟨b, i, none⟩ = some (.slice a (P i).length c) ∧ Nats w (.slice a (P i).length c) (P i)
theorem Pts.below {w w' : World} {b n B : Nat} {P : Nat → List Nat} (h : Pts w b n P) (hb : Below B w w') (hB : w.heap.size ≤ B) : Pts w' b n P := fun i hi => by
  obtain ⟨a, c, h1, h2⟩ := h i hi
  exact ⟨a, c, ck h1 (hb.mono (by omega) |> fun h => ⟨h.os, h.tape, h.output, h.size, fun k hk => hb.block k (by omega)⟩), h2.below hb hB⟩

set_option maxHeartbeats 1000000 in
theorem find_any (q1 q3 : Option Addr) (n1 c1 n3 c3 pb n c r : Nat) (P : Nat → List Nat) (v : Value) (l : List Nat) (w : World) (h : Pts w pb n P) (hv : Nats w v l) (hn : n ≤ 1000)
    (hr : r ≤ n) (hne : ∀ i, i < r → P i ≠ l) (he : r < n → P r = l) :
    Calls Try.prog 76 #[.agg #[.slice q1 n1 c1, .slice (some ⟨pb, 0, none⟩) n c, .slice q3 n3 c3], v] w fun e w' => e = .returned (.int .i64 (if r < n then (r : Int) else -1)) ∧ Below w.heap.size w w' := by
  obtain ⟨ao, cap, rfl, h1, h2, _⟩ := Nats.open hv
  have HP := Lib.hid h
  have HV := Lib.hid hv
  have HN := Lib.hid hne
  have HE := Lib.hid he
  have HS := Lib.hid (fun v v' l l' W h h' => same_any v v' l l' W h h')
  obtain ⟨R, hR⟩ : ∃ R : Int, R = if r < n then (r : Int) else -1 := ⟨_, rfl⟩
  rw [← hR]
  have HR := Lib.hid hR
  clear h hv hne he hR
  go_enter Try.func76, Try.ntmps76
  go_wp2_with fail
  go_loopw [10] (fun i wr => ∃ k : Nat, k ≤ r ∧ i = .int .i64 k ∧ Below w.heap.size w wr) (fun i _ => r + 1 - (intOf i).toNat)
  case atStart => exact ⟨0, Nat.zero_le _, rfl, a1 _ _⟩
  case round =>
    obtain ⟨k, hk, rfl, hb⟩ := hrel
    have HB := Lib.hid hb
    clear hb
    by_cases hlt : k < n
    · obtain ⟨qa, qc, hcq, hq⟩ := HP.out k hlt
      have hcq' := ck hcq HB.out
      have HQ := Lib.hid (hq.below HB.out (Nat.le_refl _))
      have HVr := Lib.hid (HV.out.below HB.out (Nat.le_refl _))
      clear hcq hq
      go_wp2_with fail
      refine (HS.out _ _ _ _ _ HVr.out HQ.out).mono ?_
      rintro e w1 ⟨rfl, rfl⟩
      by_cases hkr : k = r
      · subst hkr
        have hd := decide_eq_true (HE.out hlt).symm
        have HRr : Hid (R = (k : Nat)) := Lib.hid (by rw [HR.out, if_pos hlt])
        clear HR
        go_wp2_with fail
        go_ret
        exact ⟨ret_int HRr.out.symm, HB.out⟩
      · have hd : decide (l = P k) = false := decide_eq_false fun e => HN.out k (by omega) e.symm
        go_wp2_with fail
        go_roundw
        case rel => exact ⟨k + 1, by omega, by go_num, HB.out⟩
        case measure => simp [intOf]; omega
    · have hkn : k = n := by omega
      have HRr : Hid (R = -1) := Lib.hid (by rw [HR.out, if_neg (by omega)])
      clear HR HP HV HS HE HN
      go_wp2_with fail
      go_ret
      exact ⟨ret_int HRr.out.symm, HB.out⟩
end Go.Proofs.Ytlnbodpdgebflaa
