/- below, has, size, isSet, common -/
import Derived.Test.YtdnhfnegnjdeoaaDoorOn
import Derived.Test.YtdnhfnegnjdeoaaDoorGm
import Derived.Test.YtdnhfnegnjdeoaaDoorRe
namespace Go.Proofs.YtdnhfnegnjdeoaaDoor
open Go.RowKit

theorem quiet_eq {P : Program} {f : FuncId} {args : Array Value} {w : World} {n : Nat} {v : Value}
    (h : Calls P f args (w.drewN n) fun e w' => e = .returned v ∧ w.drewN n = w') : Calls P f args (w.drewN n) fun e w'' => e = .returned v ∧ ∃ m, w'' = w.drewN m :=
  h.mono fun _ _ ⟨he, hm⟩ => ⟨he, n, hm.symm⟩

theorem below_any (n : Nat) (w : World) (hn : n ≤ 16) : Calls Tryd.prog 82 #[.int .i64 n] w fun e w' => e = .returned (.int .i64 ((2:Int) ^ n - 1)) ∧ w = w' := by
  have h := pw_bd n hn
  have hw := wrap_pw n hn
  have hw2 : wrap64 ((2:Int) ^ n - 1) = (2:Int) ^ n - 1 := wrap_in (by omega) (by omega)
  go_enter Tryd.func82, Tryd.ntmps82
  go_wp2
  go_ret
  exact ⟨rfl, rfl⟩

theorem hasI_any (z : Int) (i : Nat) (w : World) (hi : i ≤ 16) : Calls Tryd.prog 74 #[.int .i64 z, .int .i64 i] w fun e w' => e = .returned (.bool (ibit z i)) ∧ w = w' := by
  have H := Lib.hid (int_bit1 z i)
  go_enter Tryd.func74, Tryd.ntmps74
  go_wp2
  go_ret
  exact ⟨ret_bool H.out, rfl⟩
theorem has_any (x n : Nat) (w : World) (hn : n ≤ 16) : Calls Tryd.prog 74 #[.int .i64 x, .int .i64 n] w fun e w' => e = .returned (.bool (x.testBit n)) ∧ w = w' := by
  have := hasI_any (x : Int) n w hn
  rwa [ibit_nat] at this

theorem isSet_any (x : Int) (n : Nat) (w : World) (hn : n ≤ 16) :
    Calls Tryd.prog 78 #[.int .i64 x, .int .i64 n] w fun e w' => e = .returned (.bool (setB x n)) ∧ w = w' := by
  have HC := Lib.hid (below_any n w hn)
  have h := pw_bd n hn
  by_cases h0 : 0 ≤ x
  · have HS : Hid (setB x n = decide (x ≤ 2 ^ n - 1)) := Lib.hid (by
      unfold setB
      by_cases h1 : x < 2 ^ n
      · rw [decide_eq_true ⟨h0, h1⟩, decide_eq_true (by omega)]
      · rw [decide_eq_false (fun x => h1 x.2), decide_eq_false (by omega)])
    clear h
    go_enter Tryd.func78, Tryd.ntmps78
    go_wp2_with fail
    refine HC.out.mono ?_
    rintro e w' ⟨rfl, rfl⟩
    go_wp2
    go_ret
    exact ⟨ret_bool HS.out.symm, rfl⟩
  · have HS : Hid (setB x n = false) := decide_eq_false fun h => h0 h.1
    clear h HC
    go_enter Tryd.func78, Tryd.ntmps78
    go_wp2_with fail
    go_ret
    exact ⟨ret_bool HS.out.symm, rfl⟩

theorem size_any (x : Nat) (w : World) (hx : x < 65536) : Calls Tryd.prog 62 #[.int .i64 x] w fun e w' => e = .returned (.int .i64 (pop 16 x)) ∧ w = w' := by
  have HC := Lib.hid (ones_any x w hx)
  have hu : IntKind.u64.wrap (x:Int) = x := ucast (by omega) (by omega)
  go_enter Tryd.func62, Tryd.ntmps62
  go_wp2_with fail
  refine HC.out.mono ?_
  rintro e w' ⟨rfl, rfl⟩
  go_wp2
  go_ret
  exact ⟨rfl, rfl⟩

set_option maxHeartbeats 1000000 in
theorem common_any (v : Value) (bs : List Nat) (n i j : Nat) (w : World) (hg : Gr n bs) (h : Nats w v bs) (hi : i < n) (hj : j < n) :
    Calls Tryd.prog 63 #[v, .int .i64 i, .int .i64 j] w fun e w' => e = .returned (.int .i64 (com bs i j)) ∧ Below w.heap.size w w' := by
  obtain ⟨ao, cap, rfl, hcap, hx⟩ := hg.open h
  obtain ⟨b, o, rfl, c1⟩ := hx i hi
  obtain ⟨b', o', e, c2⟩ := hx j hj
  simp only [Option.some.injEq, Addr.mk.injEq, and_true] at e
  obtain ⟨rfl, rfl⟩ := e
  have hand := i64_and (bs.getD i 0) (bs.getD j 0) (by have := hg.get16 i; omega) (by have := hg.get16 j; omega)
  have hlt : bs.getD i 0 &&& bs.getD j 0 < 65536 := Nat.lt_of_le_of_lt Nat.and_le_left (hg.get16 i)
  have HE : Hid (com bs i j = pop 16 (bs.getD i 0 &&& bs.getD j 0)) := rfl
  have HC := Lib.hid (fun w => size_any _ w hlt)
  have hi0 : (0:Int) ≤ (i:Int) := by omega
  have hj0 : (0:Int) ≤ (j:Int) := by omega
  clear hx hlt h hg
  generalize bs.getD i 0 = x at *
  generalize bs.getD j 0 = y at *
  generalize x &&& y = z at *
  go_enter Tryd.func63, Tryd.ntmps63
  go_wp2_with fail
  go_quiet ((go_at_call 62; exact quiet_eq (HC.out _)))
  go_wp2
  go_ret
  exact ⟨ret_int (by rw [HE.out]), below_drewN (Below.refl _ _) _⟩
end Go.Proofs.YtdnhfnegnjdeoaaDoor
