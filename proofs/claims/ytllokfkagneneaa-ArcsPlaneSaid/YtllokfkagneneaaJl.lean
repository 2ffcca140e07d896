/- ArcsJoins: the walk -/
import Derived.Test.YtllokfkagneneaaT1
import Derived.Test.YtllokfkagneneaaT2
import Derived.Test.YtllokfkagneneaaPl
namespace Go.Proofs.Ytllokfkagneneaa
open Go.RowKit

theorem joins7 (a b : Nat) (ha : a < np 7) (hb : b < np 7) (h : a ≠ b) : joinS 7 a b = joinR 7 a b := by
  have hn : np 7 = 57 := rfl
  by_cases h1 : a < 15
  · exact (joins7a a h1 b hb).resolve_left h
  by_cases h2 : a < 29
  · obtain ⟨c, rfl⟩ : ∃ c, a = c + 15 := ⟨a - 15, by omega⟩
    exact (joins7b c (by omega) b hb).resolve_left h
  by_cases h3 : a < 43
  · obtain ⟨c, rfl⟩ : ∃ c, a = c + 29 := ⟨a - 29, by omega⟩
    exact (joins7c c (by omega) b hb).resolve_left h
  · obtain ⟨c, rfl⟩ : ∃ c, a = c + 43 := ⟨a - 43, by omega⟩
    exact (joins7d c (by omega) b hb).resolve_left h
theorem joins_same (p a b : Nat) (hp : isPn p) (ha : a < np p) (hb : b < np p) (h : a ≠ b) : joinS p a b = joinR p a b := by
  rcases hp with rfl | rfl | rfl | rfl
  · exact (joins2 a ha b hb).resolve_left h
  · exact (joins3 a ha b hb).resolve_left h
  · exact (joins5 a ha b hb).resolve_left h
  · exact joins7 a b ha hb h

theorem joinpost_bad {w w' : World} {p i j : Int} {e : Ending} (h : JoinPost w p i j e w') (hk : ¬ (okB p [i, j] = true ∧ i ≠ j)) : e = .returned (.tuple #[.int .i64 0, .int .i64 2]) ∧ Below w.heap.size w w' := by
  unfold JoinPost at h; rw [if_neg hk] at h; exact h
theorem joinpost_good {w w' : World} {p i j : Nat} {e : Ending} (h : JoinPost w p i j e w') (hk : okB p [(i:Int), (j:Int)] = true) (hn : i ≠ j) : e = .returned (.tuple #[.int .i64 (joinS p i j), .int .i64 0]) ∧ Below w.heap.size w w' := by
  unfold JoinPost at h; rw [if_pos ⟨hk, by omega⟩] at h; exact h

set_option maxHeartbeats 4000000 in
set_option maxRecDepth 100000 in
theorem joins_law (p i j : Int) (w : World) (hi : I64 i) (hj : I64 j) :
    Calls Try.prog 4 #[.int .i64 p, .int .i64 i, .int .i64 j] w fun e w' => e = .returned (.bool true) ∧ Below w.heap.size w w' := by
  have HJ := Lib.hid (fun w => join_any p i j w hi hj)
  have HM := Lib.hid (fun w => meet_any p i j w hi hj)
  have HLP := Lib.hid (fun w => lpoints_any p _ [i, j] _ (Ints.two w i j 3 hi hj))
  by_cases hbad : okB p [i, j] = true ∧ i ≠ j
  · obtain ⟨hk, hne⟩ := hbad
    obtain ⟨q, rfl, hq, hall⟩ := okB_of hk
    obtain ⟨a, rfl, ha⟩ := hall i (by simp)
    obtain ⟨b, rfl, hb⟩ := hall j (by simp)
    have hab : a ≠ b := by omega
    have HK := Lib.hid hk
    have HN := Lib.hid hab
    have HR := Lib.hid (fun w => rJoin_any q a b w hq ha hb)
    rw [← joins_same q a b hq ha hb hab] at HR
    obtain ⟨n, hn⟩ : ∃ n, n = joinS q a b := ⟨_, rfl⟩
    have HJP : Hid (∀ w w' e, JoinPost w q a b e w' → e = .returned (.tuple #[.int .i64 n, .int .i64 0]) ∧ Below w.heap.size w w') := fun w w' e h => by rw [hn]; exact joinpost_good h hk hab
    rw [← hn] at HR
    rw [hk] at HLP
    have heq : ((a:Int) == (b:Int)) = false := by simp; omega
    have hnn : (n == n) = true := by simp
    clear hn hk hne hall ha hb hab hq hi hj
    go_enter Try.func4, Try.ntmps4
    go_wp2_with fail
    refine (HJ.out w).mono ?_
    intro e w1 hq
    obtain ⟨rfl, hb1⟩ := HJP.out _ _ _ hq
    have HB1 := Lib.hid hb1
    clear hb1 hq
    go_wp2_with fail
    refine (HM.out w1).mono ?_
    intro e w2 hq
    obtain ⟨rfl, hb2⟩ := HJP.out _ _ _ hq
    have HB2 := Lib.hid (HB1.out.trans (hb2.mono HB1.out.size))
    clear hb2 hq
    go_wp2_with fail
    refine (HLP.out w2).mono ?_
    rintro e w3 ⟨rfl, rfl⟩
    have HB3 := Lib.hid (HB2.out.alloc HB2.out.size (.cells #[.int .i64 a, .int .i64 b] 3))
    go_wp2_with fail
    refine (HR.out _).mono ?_
    rintro e w4 ⟨rfl, hb4⟩
    have HB4 := Lib.hid (HB3.out.trans (hb4.mono HB3.out.size))
    clear hb4
    go_wp2_with fail
    refine (awake_any w4).mono ?_
    rintro e w5 ⟨rfl, hb5⟩
    have HB5 := Lib.hid (HB4.out.trans (hb5.mono HB4.out.size))
    clear hb5
    go_wp2
    go_ret
    exact ⟨rfl, HB5.out⟩
  · have HBad := Lib.hid hbad
    cases hk : okB p [i, j] with
    | false =>
      rw [hk] at HLP
      clear hbad hk hi hj
      go_enter Try.func4, Try.ntmps4
      go_wp2_with fail
      refine (HJ.out w).mono ?_
      intro e w1 hq
      obtain ⟨rfl, hb1⟩ := joinpost_bad hq HBad.out
      have HB1 := Lib.hid hb1
      clear hb1 hq
      go_wp2_with fail
      refine (HM.out w1).mono ?_
      intro e w2 hq
      obtain ⟨rfl, hb2⟩ := joinpost_bad hq HBad.out
      have HB2 := Lib.hid (HB1.out.trans (hb2.mono HB1.out.size))
      clear hb2 hq
      go_wp2_with fail
      refine (HLP.out w2).mono ?_
      rintro e w3 ⟨rfl, rfl⟩
      have HB3 := Lib.hid (HB2.out.alloc HB2.out.size (.cells #[.int .i64 i, .int .i64 j] 3))
      go_wp2_with fail
      refine (awake_any _).mono ?_
      rintro e w5 ⟨rfl, hb5⟩
      have HB5 := Lib.hid (HB3.out.trans (hb5.mono HB3.out.size))
      clear hb5
      go_wp2
      go_ret
      exact ⟨rfl, HB5.out⟩
    | true =>
      obtain rfl : i = j := by
        rcases Int.decEq i j with h | h
        · exact absurd ⟨hk, h⟩ hbad
        · exact h
      have heq : (i == i) = true := by simp
      rw [hk] at HLP
      clear hbad hk hi hj
      go_enter Try.func4, Try.ntmps4
      go_wp2_with fail
      refine (HJ.out w).mono ?_
      intro e w1 hq
      obtain ⟨rfl, hb1⟩ := joinpost_bad hq HBad.out
      have HB1 := Lib.hid hb1
      clear hb1 hq
      go_wp2_with fail
      refine (HM.out w1).mono ?_
      intro e w2 hq
      obtain ⟨rfl, hb2⟩ := joinpost_bad hq HBad.out
      have HB2 := Lib.hid (HB1.out.trans (hb2.mono HB1.out.size))
      clear hb2 hq
      go_wp2_with fail
      refine (HLP.out w2).mono ?_
      rintro e w3 ⟨rfl, rfl⟩
      have HB3 := Lib.hid (HB2.out.alloc HB2.out.size (.cells #[.int .i64 i, .int .i64 i] 3))
      go_wp2_with fail
      refine (awake_any _).mono ?_
      rintro e w5 ⟨rfl, hb5⟩
      have HB5 := Lib.hid (HB3.out.trans (hb5.mono HB3.out.size))
      clear hb5
      go_wp2
      go_ret
      exact ⟨rfl, HB5.out⟩
end Go.Proofs.Ytllokfkagneneaa
