/- Times: the program's -/
import Derived.Test.YtopmdmafameknaaNr
import Derived.Test.YtopmdmafameknaaBs
namespace Go.Proofs.Ytopmdmafameknaa
open Go.RowKit

def timesF (a b : List Nat) (n i j : Nat) : Bool := (a.getD (i / n) 0).testBit (j / n) != (b.getD (i % n) 0).testBit (j % n)

/-- What the closure has caught. -/
structure CapT (w : World) (pa pn pb : Nat) (va vb : Value) (n : Nat) (a b : List Nat) (m : Nat) : Prop where
  ca : w.cell? ⟨pa, 0, none⟩ = some va
  cn : w.cell? ⟨pn, 0, none⟩ = some (.int .i64 n)
  cb : w.cell? ⟨pb, 0, none⟩ = some vb
  na : Nats w va a
  nb : Nats w vb b
  ma : Mat m a
  mb : Mat n b
theorem CapT.below {w w' : World} {pa pn pb : Nat} {va vb : Value} {n : Nat} {a b : List Nat} {m : Nat} (h : CapT w pa pn pb va vb n a b m) (hb : Below w.heap.size w w') : CapT w' pa pn pb va vb n a b m :=
  ⟨ck h.ca hb, ck h.cn hb, ck h.cb hb, h.na.below hb (Nat.le_refl _), h.nb.below hb (Nat.le_refl _), h.ma, h.mb⟩

set_option maxHeartbeats 2000000 in
set_option maxRecDepth 100000 in
theorem times1_any (i j pa pn pb : Nat) (va vb : Value) (n m : Nat) (a b : List Nat) (w : World) (h : CapT w pa pn pb va vb n a b m) (hi : i < m * n) (hj : j < m * n) :
    Calls Try.prog 72 #[.int .i64 i, .int .i64 j, .pointer (some ⟨pa, 0, none⟩), .pointer (some ⟨pn, 0, none⟩), .pointer (some ⟨pb, 0, none⟩)] w fun e w' => e = .returned (.bool (timesF a b n i j)) ∧ ∃ q, w' = w.drewN q := by
  have hn := h.mb.pos
  have hn16 := h.mb.le
  have hm16 := h.ma.le
  have hi1 : i / n < m := Nat.div_lt_of_lt_mul (by rw [Nat.mul_comm]; exact hi)
  have hj1 : j / n < m := Nat.div_lt_of_lt_mul (by rw [Nat.mul_comm]; exact hj)
  have hi2 : i % n < n := Nat.mod_lt _ hn
  have hj2 : j % n < n := Nat.mod_lt _ hn
  obtain ⟨ao, cap, hva, h1, hxa⟩ := h.ma.open h.na
  obtain ⟨bo, capb, hvb, h2, hxb⟩ := h.mb.open h.nb
  obtain ⟨ab, ax, rfl, hca⟩ := hxa (i / n) hi1
  obtain ⟨bb, bx, rfl, hcb⟩ := hxb (i % n) hi2
  have ca := h.ca
  have cn := h.cn
  have cb := h.cb
  rw [hva] at ca
  rw [hvb] at cb
  have ha16 := h.ma.get16 (i / n)
  have hb16 := h.mb.get16 (i % n)
  have hj1' : j / n ≤ 16 := by omega
  have hj2' : j % n ≤ 16 := by omega
  have HF : Hid (timesF a b n i j = ((a.getD (i / n) 0).testBit (j / n) != (b.getD (i % n) 0).testBit (j % n))) := rfl
  have d1 : (i:Int).tdiv n = ((i / n : Nat) : Int) := rfl
  have d2 : (j:Int).tdiv n = ((j / n : Nat) : Int) := rfl
  have d3 : (i:Int).tmod n = ((i % n : Nat) : Int) := rfl
  have d4 : (j:Int).tmod n = ((j % n : Nat) : Int) := rfl
  have hnz : ((n:Int) == 0) = false := by simp; omega
  clear h hxa hxb hva hvb hi hj
  generalize a.getD (i / n) 0 = x at *
  generalize b.getD (i % n) 0 = y at *
  generalize i / n = i1 at *
  generalize i % n = i2 at *
  generalize j / n = j1 at *
  generalize j % n = j2 at *
  have q1 : (0:Int) ≤ (i1 : Int) := by omega
  have q2 : (i1:Int) < (m : Int) := by omega
  have q3 : (0:Int) ≤ (i2 : Int) := by omega
  have q4 : (i2:Int) < (n : Int) := by omega
  go_enter Try.func72, Try.ntmps72
  go_wp2
  go_quiet ((go_at_call 73; exact quiet_eq (has_any _ _ _ (by assumption) (by assumption))))
  go_wp2
  go_ret
  exact ⟨ret_bool HF.out.symm, _, rfl⟩
end Go.Proofs.Ytopmdmafameknaa
