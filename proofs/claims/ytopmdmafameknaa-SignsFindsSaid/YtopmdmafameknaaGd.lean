/- Array: the program's -/
import Derived.Test.YtopmdmafameknaaGb
namespace Go.Proofs.Ytopmdmafameknaa
open Go.RowKit

def bef (r : Nat) : Nat := selN 0 5 9 3 r
def arrF (m a b c d i j : Nat) : Bool := (bef (i / m)).testBit (j / m) != (selN a b c d ((i / m) ^^^ (j / m))).testBit ((j + 4 * m - i) % m)

structure CapA (w : World) (pm pb ps m a b c d : Nat) : Prop where
  cm : w.cell? ⟨pm, 0, none⟩ = some (.int .i64 m)
  cb : ∀ k, k < 4 → w.cell? ⟨pb, k, none⟩ = some (.int .i64 (bef k : Nat))
  cs : ∀ k, k < 4 → w.cell? ⟨ps, k, none⟩ = some (.int .i64 (selN a b c d k : Nat))
theorem CapA.below {w w' : World} {pm pb ps m a b c d : Nat} (h : CapA w pm pb ps m a b c d) (hb : Below w.heap.size w w') : CapA w' pm pb ps m a b c d :=
  ⟨ck h.cm hb, fun k hk => ck (h.cb k hk) hb, fun k hk => ck (h.cs k hk) hb⟩
theorem bef_lt (k : Nat) : bef k < 16 := by unfold bef; match k with | 0 => decide | 1 => decide | 2 => decide | (_+3) => exact (by decide : 3 < 16)

set_option maxHeartbeats 1000000 in
set_option maxRecDepth 100000 in
theorem arr1_any (i j pm pb ps m a b c d : Nat) (w : World) (h : CapA w pm pb ps m a b c d) (h1 : 1 ≤ m) (hm : m ≤ 4) (hx : ∀ q, selN a b c d q < 65536) (hi : i < 4 * m) (hj : j < 4 * m) :
    Calls Try.prog 83 #[.int .i64 i, .int .i64 j, .pointer (some ⟨pm, 0, none⟩), .pointer (some ⟨pb, 0, none⟩), .pointer (some ⟨ps, 0, none⟩)] w fun e w' => e = .returned (.bool (arrF m a b c d i j)) ∧ Below w.heap.size w w' := by
  have hi1 : i / m < 4 := Nat.div_lt_of_lt_mul (by rw [Nat.mul_comm]; exact hi)
  have hj1 : j / m < 4 := Nat.div_lt_of_lt_mul (by rw [Nat.mul_comm]; exact hj)
  have hxr : (i / m) ^^^ (j / m) < 4 := Nat.xor_lt_two_pow (n := 2) hi1 hj1
  have cm := h.cm
  have cb := h.cb _ hi1
  have cs := h.cs _ hxr
  have hb16 := bef_lt (i / m)
  have hs16 := hx ((i / m) ^^^ (j / m))
  have hxor := i64_xor (i / m) (j / m) (by omega) (by omega)
  have hrm : (j + 4 * m - i) % m < m := Nat.mod_lt _ (by omega)
  have HF : Hid (arrF m a b c d i j = !((bef (i / m)).testBit (j / m) == (selN a b c d ((i / m) ^^^ (j / m))).testBit ((j + 4 * m - i) % m))) := rfl
  have d1 : (i:Int).tdiv m = ((i / m : Nat) : Int) := rfl
  have d2 : (j:Int).tdiv m = ((j / m : Nat) : Int) := rfl
  have e1 : (i:Int) / m = ((i / m : Nat) : Int) := rfl
  have e2 : (j:Int) / m = ((j / m : Nat) : Int) := rfl
  have hkj : (j:Int) - i + 4 * m = ((j + 4 * m - i : Nat) : Int) := by omega
  have d3 : ((j:Int) - i + 4 * m).tmod m = (((j + 4 * m - i) % m : Nat) : Int) := by rw [hkj]; rfl
  have d4 : ((j:Int) - i + 4 * m) % m = (((j + 4 * m - i) % m : Nat) : Int) := by rw [hkj]; rfl
  have hmz : ((m:Int) == 0) = false := by simp; omega
  have hj16 : j / m ≤ 16 := by omega
  have hr16 : (j + 4 * m - i) % m ≤ 16 := by omega
  have hb16' : bef (i / m) < 65536 := by omega
  clear h hx hkj
  generalize bef (i / m) = x at *
  generalize selN a b c d ((i / m) ^^^ (j / m)) = y at *
  generalize (i / m) ^^^ (j / m) = q at *
  generalize i / m = r1 at *
  generalize j / m = c1 at *
  generalize (j + 4 * m - i) % m = t at *
  have q1 : (0:Int) ≤ (r1 : Int) := by omega
  have q2 : (r1:Int) < 4 := by omega
  have q3 : (0:Int) ≤ (q : Int) := by omega
  have q4 : (q:Int) < 4 := by omega
  have w1 : IntKind.i64.wrap ((j:Int) - i) = (j:Int) - i := IntWalk.i64_in _ (by omega)
  have w2 : IntKind.i64.wrap (4 * (m:Int)) = 4 * m := IntWalk.i64_in _ (by omega)
  have w3 : IntKind.i64.wrap ((j:Int) - i + 4 * m) = (j:Int) - i + 4 * m := IntWalk.i64_in _ (by omega)
  have w4 : IntKind.i64.wrap (r1 : Int) = r1 := IntWalk.i64_in _ (by omega)
  have w5 : IntKind.i64.wrap (c1 : Int) = c1 := IntWalk.i64_in _ (by omega)
  go_enter Try.func83, Try.ntmps83
  go_wp2
  go_quiet (fail)
  generalize hW : w.drewN nq = W at *
  have cm' : W.cell? ⟨pm, 0, none⟩ = some (.int .i64 m) := by rw [← hW]; exact cm
  have cb' : W.cell? ⟨pb, r1, none⟩ = some (.int .i64 x) := by rw [← hW]; exact cb
  have cs' : W.cell? ⟨ps, q, none⟩ = some (.int .i64 y) := by rw [← hW]; exact cs
  have HWb : Hid (Below w.heap.size w W) := (show _ by rw [← hW]; exact below_drewN (Below.refl _ _) _)
  clear hW cm cb cs
  go_wp2
  go_quiet ((go_at_call 73; exact quiet_eq (has_any _ _ _ (by assumption) (by assumption))))
  go_wp2
  go_ret
  exact ⟨ret_bool HF.out.symm, below_drewN HWb.out _⟩
end Go.Proofs.Ytopmdmafameknaa
