/- bits.OnesCount -/
import Derived.Test.YtdnhfnegnjdeoaaDoorBi
import Derived.Test.YtdnhfnegnjdeoaaDoorOc
namespace Go.Proofs.YtdnhfnegnjdeoaaDoor
open Go.RowKit

set_option maxHeartbeats 1000000 in
theorem ones64_any (x : Nat) (w : World) (hx : x < 65536) :
    Calls Tryd.prog 104 #[.int .u64 x] w fun e w' => e = .returned (.int .i64 (pop 16 x)) ∧ w = w' := by
  have hA : bits .and .u64 ((x:Int) / 2) 6148914691236517205 = (((x / 2) &&& 6148914691236517205 : Nat) : Int) := by
    rw [← u64_and (x/2) 6148914691236517205 (by omega) (by omega)]; rfl
  have hA' : bits .and .u64 (x:Int) 6148914691236517205 = ((x &&& 6148914691236517205 : Nat) : Int) := u64_and x 6148914691236517205 (by omega) (by omega)
  have hAs : IntKind.u64.wrap (bits .and .u64 ((x:Int) / 2) 6148914691236517205 + bits .and .u64 (x:Int) 6148914691236517205) = (ocA x : Int) ∧ ocA x < 131072 := by
    have l1 : (x / 2) &&& 6148914691236517205 ≤ x / 2 := Nat.and_le_left
    have l2 : x &&& 6148914691236517205 ≤ x := Nat.and_le_left
    rw [hA, hA']
    unfold ocA
    exact ⟨by rw [ucast (by omega) (by omega)]; rfl, by omega⟩
  obtain ⟨eA, lA⟩ := hAs
  have hBs : IntKind.u64.wrap (bits .and .u64 ((ocA x : Int) / 4) 3689348814741910323 + bits .and .u64 (ocA x : Int) 3689348814741910323) = (ocB (ocA x) : Int) ∧ ocB (ocA x) < 1048576 := by
    generalize ocA x = a at *
    have l1 : (a / 4) &&& 3689348814741910323 ≤ a / 4 := Nat.and_le_left
    have l2 : a &&& 3689348814741910323 ≤ a := Nat.and_le_left
    have e1 : bits .and .u64 ((a:Int) / 4) 3689348814741910323 = (((a / 4) &&& 3689348814741910323 : Nat) : Int) := by
      rw [← u64_and (a/4) 3689348814741910323 (by omega) (by omega)]; rfl
    have e2 : bits .and .u64 (a:Int) 3689348814741910323 = ((a &&& 3689348814741910323 : Nat) : Int) := u64_and a 3689348814741910323 (by omega) (by omega)
    rw [e1, e2]
    unfold ocB
    exact ⟨by rw [ucast (by omega) (by omega)]; rfl, by omega⟩
  obtain ⟨eB, lB⟩ := hBs
  have hCs : bits .and .u64 (IntKind.u64.wrap ((ocB (ocA x) : Int) / 16 + (ocB (ocA x) : Int))) 1085102592571150095 = (ocC (ocB (ocA x)) : Int) ∧ ocC (ocB (ocA x)) < 2097152 := by
    generalize ocB (ocA x) = b at *
    have l1 : (b / 16 + b) &&& 1085102592571150095 ≤ b / 16 + b := Nat.and_le_left
    rw [ucast (by omega) (by omega)]
    unfold ocC
    exact ⟨by rw [← u64_and (b/16 + b) 1085102592571150095 (by omega) (by omega)]; rfl, by omega⟩
  obtain ⟨eC, lC⟩ := hCs
  have eD : IntKind.u64.wrap ((ocC (ocB (ocA x)) : Int) + (ocC (ocB (ocA x)) : Int) / 256) = (ocD (ocC (ocB (ocA x))) : Int) := by
    rw [ucast (by omega) (by omega)]; rfl
  have lD : ocD (ocC (ocB (ocA x))) < 4194304 := by unfold ocD; omega
  have eE : IntKind.u64.wrap ((ocD (ocC (ocB (ocA x))) : Int) + (ocD (ocC (ocB (ocA x))) : Int) / 65536) = (ocE (ocD (ocC (ocB (ocA x)))) : Int) := by
    rw [ucast (by omega) (by omega)]; rfl
  have lE : ocE (ocD (ocC (ocB (ocA x)))) < 8388608 := by unfold ocE; omega
  have eF : IntKind.u64.wrap ((ocE (ocD (ocC (ocB (ocA x)))) : Int) + (ocE (ocD (ocC (ocB (ocA x)))) : Int) / 4294967296) = (ocF (ocE (ocD (ocC (ocB (ocA x))))) : Int) := by
    rw [ucast (by omega) (by omega)]; rfl
  have lF : ocF (ocE (ocD (ocC (ocB (ocA x))))) < 16777216 := by unfold ocF; omega
  have eN : bits .and .i64 (ocF (ocE (ocD (ocC (ocB (ocA x)))))  : Int) 127 = (ocN x : Int) := i64_and _ 127 (by omega) (by omega)
  have eW : IntKind.i64.wrap (ocF (ocE (ocD (ocC (ocB (ocA x)))))  : Int) = (ocF (ocE (ocD (ocC (ocB (ocA x)))))  : Int) := i64_of (by omega) (by omega)
  have eP : Hid (ocN x = pop 16 x) := ocN_pop x hx
  clear hA hA' lA lB lC lD lE lF hx
  go_enter Tryd.func104, Tryd.ntmps104
  go_wp2
  go_ret
  exact ⟨ret_int (by rw [eP.out]), rfl⟩

set_option maxHeartbeats 400000 in
theorem ones_any (x : Nat) (w : World) (hx : x < 65536) :
    Calls Tryd.prog 91 #[.int .u64 x] w fun e w' => e = .returned (.int .i64 (pop 16 x)) ∧ w = w' := by
  go_enter Tryd.func91, Tryd.ntmps91
  go_wp2_with fail
  refine (ones64_any x w hx).mono ?_
  rintro e w' ⟨rfl, rfl⟩
  go_wp2
  go_ret
  exact ⟨rfl, rfl⟩
end Go.Proofs.YtdnhfnegnjdeoaaDoor
