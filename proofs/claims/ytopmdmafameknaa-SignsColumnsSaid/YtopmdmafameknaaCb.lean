/- SignsColumns: what its walks share -/
import Derived.Test.YtopmdmafameknaaMb
import Derived.Test.YtopmdmafameknaaCn
namespace Go.Proofs.Ytopmdmafameknaa
open Go.RowKit

theorem bal_fine {w w' : World} {n : Nat} {hs : List Nat} {e : Ending} {b : Bool} (hm : Mat n hs) (hb : balB n hs = b) (h : BalPost w (nats hs) e w') : e = .returned (.tuple #[.bool b, .int .i64 0]) ∧ w = w' := by
  unfold BalPost at h
  rw [matB_mk hm hm.le, if_pos (by rfl), nats_length, hm.len, nats_toNat, hb] at h
  exact h
theorem bal_bad {w w' : World} {xs : List Int} {e : Ending} (hm : matB 16 xs = false) (h : BalPost w xs e w') : e = .returned (.tuple #[.bool false, .int .i64 2]) ∧ w = w' := by
  unfold BalPost at h; rw [hm] at h; exact h
theorem norm_fine {w w' : World} {n : Nat} {hs : List Nat} {e : Ending} (hm : Mat n hs) (h : NormPost w (nats hs) e w') : ∃ v, e = .returned (.tuple #[v, .int .i64 0]) ∧ Nats w' v (normL n hs) ∧ Below w.heap.size w w' := by
  unfold NormPost at h
  rw [matB_mk hm hm.le, if_pos (by rfl), nats_length, hm.len, nats_toNat] at h
  obtain ⟨⟨v, he, hv⟩, hb⟩ := h
  exact ⟨v, he, hv, hb⟩
theorem cloneN (v : Value) (hs : List Nat) (w : World) (hl : hs.length ≤ 16) (hb : ∀ x ∈ hs, x < 65536) (h : Nats w v hs) :
    Calls Try.prog 53 #[v] w fun e w' => ∃ v', e = .returned v' ∧ Nats w' v' hs ∧ Below w.heap.size w w' :=
  (clone1_any v _ w h).mono fun e w' ⟨ao, c, he, ho, hbel⟩ => ⟨_, he, Ints.of_owns ho (by rw [nats_length]; omega) (nats_I64 hb), hbel⟩
theorem overN (v : Value) (n : Nat) (hs : List Nat) (w : World) (h : Nats w v hs) (hm : Mat n hs) :
    Calls Try.prog 54 #[v] w fun e w' => ∃ v', e = .returned v' ∧ Nats w' v' (overL n hs) ∧ Below w.heap.size w w' :=
  (over_any v n hs w h hm).mono fun _ _ ⟨he, hB, hb⟩ => ⟨_, he, plant_nats hm.le hB, hb⟩
theorem and_one_nat (x : Nat) : bits .and .i64 (x:Int) 1 = ((x % 2 : Nat) : Int) := by
  rw [and_one]; congr 1; omega
theorem norm_cells {w : World} {v : Value} {n : Nat} {hs : List Nat} (hm : Mat n hs) (h : Nats w v (normL n hs)) : ∃ ao cap, v = .slice ao n cap ∧
    ∀ q, q < n → ∃ b o x, ao = some ⟨b, o, none⟩ ∧ w.cell? ⟨b, o + q, none⟩ = some (.int .i64 (x : Nat)) ∧ bits .and .i64 (x:Int) 1 = 0 ∧ (q = 0 → ((x:Int) != 0) = false) := by
  have hn : Mat n (normL n hs) := plant_mat _ hm.pos hm.le
  obtain ⟨ao, cap, hv, h1, hx⟩ := hn.open h
  refine ⟨ao, cap, hv, fun q hq => ?_⟩
  obtain ⟨b, o, e, hc⟩ := hx q hq
  refine ⟨b, o, _, e, hc, ?_, fun h0 => ?_⟩
  · rw [and_one_nat _, norm_bit q hq]; rfl
  · subst h0; rw [norm_first hm]; rfl
theorem double_mat {k : Nat} (h : k ≤ 4) : Mat (2 ^ k) (doubleS k) := plant_mat _ (Nat.two_pow_pos k) (Nat.pow_le_pow_right (by decide) h)
theorem squares_mat {p : Nat} (h : p ≤ 11) : Mat (p + 1) (squaresS p) := plant_mat _ (by omega) (by omega)
theorem bsq3 : balB (3 + 1) (squaresS 3) = true := bal_sq3
theorem bsq7 : balB (7 + 1) (squaresS 7) = true := bal_sq7
theorem bsq11 : balB (11 + 1) (squaresS 11) = true := bal_sq11
theorem norm_mat {n : Nat} {hs : List Nat} (hm : Mat n hs) : Mat n (normL n hs) := plant_mat _ hm.pos hm.le
theorem over_mat {n : Nat} {hs : List Nat} (hm : Mat n hs) : Mat n (overL n hs) := plant_mat _ hm.pos hm.le
theorem times_mat {m n : Nat} {a b : List Nat} (ha : Mat m a) (hb : Mat n b) (h : m * n ≤ 16) : Mat (m * n) (timesS m n a b) := plant_mat _ (Nat.mul_pos ha.pos hb.pos) h
end Go.Proofs.Ytopmdmafameknaa
