/- the first reason against numbers, reckoned; no reason against the other graph's numbers up to 30 -/
import Derived.Test.YtdnhfnegnjdeoaaDoorXc
namespace Go.Proofs.YtdnhfnegnjdeoaaDoor
open Go.RowKit

def rootF (K L M : Int) : Option (Int × Int) :=
  (List.range 100).findSome? fun (r : Nat) => if L - M - (r:Int) ≤ r ∧ (r:Int) * (L - M - (r:Int)) = M - K then some ((r:Int), L - M - (r:Int)) else none
theorem rootF_some {K L M R S : Int} (h : rootF K L M = some (R, S)) : RootP K L M R S := by
  obtain ⟨r, _, hr⟩ := List.exists_of_findSome?_eq_some h
  by_cases c : L - M - (r:Int) ≤ r ∧ (r:Int) * (L - M - (r:Int)) = M - K
  · rw [if_pos c] at hr
    obtain ⟨rfl, rfl⟩ := Prod.mk.inj (Option.some.inj hr)
    exact ⟨c.1, by omega, c.2⟩
  · rw [if_neg c] at hr; cases hr
theorem rootF_none {N K L M : Int} (ha : AskN N K L M) (h : rootF K L M = none) : ¬ ∃ R S, RootP K L M R S := fun ⟨R, S, hrs⟩ => by
  obtain ⟨a1, a2, a3, a4, a5, a6⟩ := hrs.ask ha
  have h1 := List.findSome?_eq_none_iff.1 h R.toNat (List.mem_range.2 (by omega))
  have e : ((R.toNat : Nat) : Int) = R := by omega
  rw [e] at h1
  have e2 : L - M - R = S := by have := hrs.sum; omega
  rw [e2, if_pos ⟨hrs.le, hrs.prod⟩] at h1
  cases h1
def reaF (N K L M : Int) : Int :=
  if K * (K - L - 1) = (N - K - 1) * M then
    if M = 0 ∨ M = K then partR N K M
    else match rootF K L M with
      | none => noR N K L M
      | some (R, S) => if (-K - (N - 1) * S) % (R - S) = 0 then farR N K R S ((-K - (N - 1) * S) / (R - S)) else 4
  else 1
theorem reaF_is {N K L M : Int} (ha : AskN N K L M) : ReaP N K L M (reaF N K L M) := by
  unfold reaF
  by_cases h1 : K * (K - L - 1) = (N - K - 1) * M
  · rw [if_pos h1]
    by_cases h2 : M = 0 ∨ M = K
    · rw [if_pos h2]; exact .inr (.inl ⟨h1, h2, rfl⟩)
    · rw [if_neg h2]
      refine .inr (.inr ⟨h1, h2, ?_⟩)
      cases hr : rootF K L M with
      | none => exact .inl ⟨rootF_none ha hr, rfl⟩
      | some p =>
        obtain ⟨R, S⟩ := p
        have hR := rootF_some hr
        have hd := (hR.ask ha).1
        dsimp only
        by_cases h3 : (-K - (N - 1) * S) % (R - S) = 0
        · rw [if_pos h3]
          refine .inr (.inr ⟨R, S, _, hR, ?_, rfl⟩)
          unfold TimesP
          rw [Int.mul_comm]
          exact Int.mul_ediv_cancel_of_emod_eq_zero h3
        · rw [if_neg h3]
          refine .inr (.inl ⟨R, S, hR, fun ⟨F, hF⟩ => h3 ?_, rfl⟩)
          unfold TimesP at hF
          rw [← hF]
          exact Int.mul_emod_left _ _
  · rw [if_neg h1]; exact .inl ⟨h1, rfl⟩
theorem reaF_one {N K L M z : Int} (ha : AskN N K L M) (h : ReaP N K L M z) : z = reaF N K L M := h.one ha (reaF_is ha)
/-- The numbers of the other graph are asked about, and have no reason against them. -/
def otherOK (N K L M : Int) : Bool :=
  askB N (N - K - 1) (N - 2 - 2 * K + M) (N - 2 * K + L) && decide (reaF N (N - K - 1) (N - 2 - 2 * K + M) (N - 2 * K + L) = 0)
def chkN (n : Nat) : Bool :=
  (List.range n).all fun k => (List.range k).all fun l => (List.range (k + 1)).all fun m =>
    !(decide ((k:Int) * ((k:Int) - l - 1) = ((n:Int) - k - 1) * m)) || (!(askB n k l m) || (!(decide (reaF n k l m = 0)) || otherOK n k l m))
theorem chkA : ∀ n < 16, chkN n = true := by decide +kernel
theorem chkB : ∀ n < 6, chkN (n + 16) = true := by decide +kernel
theorem chkC : ∀ n < 5, chkN (n + 22) = true := by decide +kernel
theorem chkD : ∀ n < 4, chkN (n + 27) = true := by decide +kernel
theorem chk_upto (n : Nat) (h : n ≤ 30) : chkN n = true := by
  by_cases h1 : n < 16
  · exact chkA n h1
  · by_cases h2 : n < 22
    · have := chkB (n - 16) (by omega)
      rwa [show n - 16 + 16 = n by omega] at this
    · by_cases h3 : n < 27
      · have := chkC (n - 22) (by omega)
        rwa [show n - 22 + 22 = n by omega] at this
      · have := chkD (n - 27) (by omega)
        rwa [show n - 27 + 27 = n by omega] at this
theorem other_ok {n k l m : Nat} (hn : n ≤ 30) (ha : askB n k l m = true) (h : reaF n k l m = 0) : otherOK n k l m = true := by
  have hA := ask_of ha
  have h1 := hA.kn
  have h2 := hA.lk
  have h3 := hA.mlk
  have hp : (k:Int) * ((k:Int) - l - 1) = ((n:Int) - k - 1) * m := by
    have := reaF_is hA
    rw [h] at this
    rcases this with ⟨_, e⟩ | ⟨e, _⟩ | ⟨e, _⟩
    · cases e
    · exact e
    · exact e
  have hc := List.all_eq_true.1 (List.all_eq_true.1 (List.all_eq_true.1 (chk_upto n hn) k (List.mem_range.2 (by omega))) l (List.mem_range.2 (by omega))) m (List.mem_range.2 (by omega))
  rw [decide_eq_true hp, ha, decide_eq_true h] at hc
  simpa using hc
end Go.Proofs.YtdnhfnegnjdeoaaDoor
