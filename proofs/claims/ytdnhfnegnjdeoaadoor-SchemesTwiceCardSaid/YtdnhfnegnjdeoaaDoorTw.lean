/- SchemesTwice: the law -/
import Derived.Test.YtdnhfnegnjdeoaaDoorTa
import Derived.Test.YtdnhfnegnjdeoaaDoorTg
import Derived.Test.YtdnhfnegnjdeoaaDoorTb
namespace Go.Proofs.YtdnhfnegnjdeoaaDoor
open Go.RowKit

theorem schemesTwice_law (v u : Value) (xs ys : List Int) (s : Int) (w : World) (h : Ints w v xs) (h' : Ints w u ys) (hT : Tab w) :
    Calls Tryd.prog 13 #[v, u, .int .i64 s] w fun e w' => e = .returned (.bool true) ∧ Below w.heap.size w w' := by
  cases hs : graphB xs with
  | false => exact twice_none v u xs ys s w h h' hT hs
  | true =>
    obtain ⟨bs, rfl, hg⟩ := graphB_of hs
    generalize hn : (nats bs).length = n at hg
    cases hz : setB s n with
    | true =>
      obtain ⟨h1, h2⟩ := of_decide_eq_true hz
      obtain ⟨t, rfl⟩ : ∃ t : Nat, s = t := ⟨s.toNat, by omega⟩
      have ht : t < 2 ^ n := by rw [← pw_cast] at h2; exact Int.ofNat_lt.1 h2
      by_cases hb : graphB ys = false ∨ n ≠ ys.length
      · exact twice_odd_good v u bs ys n t w hg h h' hT hb ht
      · have hb1 : graphB ys = true := by
          cases e : graphB ys with
          | true => rfl
          | false => exact absurd (.inl e) hb
        have hb2 : n = ys.length := Classical.byContradiction fun e => hb (.inr e)
        obtain ⟨cs, rfl, hg2⟩ := graphB_of hb1
        rw [← hb2] at hg2
        by_cases he : swL n bs (setOf n bs cs) = cs
        · exact twice_same_good v u bs cs n t w hg h hg2 h' hT ht he
        · exact twice_other_good v u bs cs n t w hg h hg2 h' hT ht he
    | false =>
      by_cases hb : graphB ys = false ∨ n ≠ ys.length
      · exact twice_odd_bad v u bs ys n s w hg h h' hT hb hz
      · have hb1 : graphB ys = true := by
          cases e : graphB ys with
          | true => rfl
          | false => exact absurd (.inl e) hb
        have hb2 : n = ys.length := Classical.byContradiction fun e => hb (.inr e)
        obtain ⟨cs, rfl, hg2⟩ := graphB_of hb1
        rw [← hb2] at hg2
        by_cases he : swL n bs (setOf n bs cs) = cs
        · exact twice_same_bad v u bs cs n s w hg h hg2 h' hT hz he
        · exact twice_other_bad v u bs cs n s w hg h hg2 h' hT hz he
end Go.Proofs.YtdnhfnegnjdeoaaDoor
