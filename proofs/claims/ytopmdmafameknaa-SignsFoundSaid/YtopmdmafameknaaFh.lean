/- cmp.Compare, slices.Compare of rows that rise -/
import Derived.Test.YtopmdmafameknaaFd
namespace Go.Proofs.Ytopmdmafameknaa
open Go.RowKit

set_option maxHeartbeats 1000000 in
theorem isNaN_any (x : Int) (w : World) : Calls Try.prog 115 #[.int .i64 x] w fun e w' => e = .returned (.bool false) ∧ w = w' := by
  go_enter Try.func115, Try.ntmps115
  go_wp2
  go_ret
  exact ⟨ret_bool (by simp), rfl⟩
def cmpI (x y : Int) : Int := if x < y then -1 else if y < x then 1 else 0
set_option maxHeartbeats 1000000 in
theorem cmp_any (x y : Int) (w : World) : Calls Try.prog 92 #[.int .i64 x, .int .i64 y] w fun e w' => e = .returned (.int .i64 (cmpI x y)) ∧ w = w' := by
  have HN := Lib.hid (fun x w => isNaN_any x w)
  by_cases h1 : x < y
  · have HC : Hid (cmpI x y = -1) := Lib.hid (if_pos h1)
    go_enter Try.func92, Try.ntmps92
    go_wp2_with fail
    refine (HN.out _ _).mono ?_
    rintro e w' ⟨rfl, rfl⟩
    go_wp2_with fail
    refine (HN.out _ _).mono ?_
    rintro e w' ⟨rfl, rfl⟩
    go_wp2
    go_ret
    exact ⟨ret_int HC.out.symm, rfl⟩
  by_cases h2 : y < x
  · have HC : Hid (cmpI x y = 1) := Lib.hid (by unfold cmpI; rw [if_neg h1, if_pos h2])
    go_enter Try.func92, Try.ntmps92
    go_wp2_with fail
    refine (HN.out _ _).mono ?_
    rintro e w' ⟨rfl, rfl⟩
    go_wp2_with fail
    refine (HN.out _ _).mono ?_
    rintro e w' ⟨rfl, rfl⟩
    go_wp2
    go_ret
    exact ⟨ret_int HC.out.symm, rfl⟩
  have HC : Hid (cmpI x y = 0) := Lib.hid (by unfold cmpI; rw [if_neg h1, if_neg h2])
  go_enter Try.func92, Try.ntmps92
  go_wp2_with fail
  refine (HN.out _ _).mono ?_
  rintro e w' ⟨rfl, rfl⟩
  go_wp2_with fail
  refine (HN.out _ _).mono ?_
  rintro e w' ⟨rfl, rfl⟩
  go_wp2
  go_ret
  exact ⟨ret_int HC.out.symm, rfl⟩

set_option maxHeartbeats 2000000 in
theorem compare_any (v u : Value) (a b : List Nat) (w : World) (hv : Nats w v a) (hu : Nats w u b) (hl : a.length = b.length) (hB : ∀ k, (∀ j, j < k → a.getD j 0 = b.getD j 0) → k < a.length → a.getD k 0 ≤ b.getD k 0) (hN : ¬ ∀ j, j < a.length → a.getD j 0 = b.getD j 0) :
    Calls Try.prog 59 #[v, u] w fun e w' => e = .returned (.int .i64 (-1)) ∧ w = w' := by
  obtain ⟨ao, cap, rfl, h1, h2, hx⟩ := hv.open
  obtain ⟨bo, cap', rfl, h1', h2', hy⟩ := hu.open
  rw [← hl] at h1' h2' hy ⊢
  have HX := Lib.hid hx
  have HY := Lib.hid hy
  have HBf : Hid (∀ k, (∀ j, j < k → a.getD j 0 = b.getD j 0) → k < a.length → a.getD k 0 ≤ b.getD k 0) := Lib.hid hB
  have HNe := Lib.hid hN
  have HC := Lib.hid (fun x y w => cmp_any x y w)
  clear hv hu hl hB hx hy hN
  go_enter Try.func59, Try.ntmps59
  go_wp2
  go_loop [11] (fun i => ∃ k : Nat, k ≤ a.length ∧ i = .int .i64 k ∧ ∀ j : Nat, j < k → a.getD j 0 = b.getD j 0) (fun i => a.length - (intOf i).toNat)
  case atStart => exact ⟨0, Nat.zero_le _, rfl, fun j hj => absurd hj (by omega)⟩
  case round =>
    obtain ⟨k, hk, rfl, hall⟩ := hrel
    have HA := Lib.hid hall
    clear hall
    by_cases hlt : k < a.length
    · obtain ⟨b1, o1, rfl, hck⟩ := HX.out k hlt
      obtain ⟨b2, o2, rfl, hck2⟩ := HY.out k hlt
      have hle := HBf.out k HA.out hlt
      by_cases heq : a.getD k 0 = b.getD k 0
      · have H := Lib.hid (fun (j : Nat) (hj : j < k + 1) => if e : j = k then e ▸ heq else HA.out j (by omega))
        have HCk := HC.out (a.getD k 0 : Nat) (b.getD k 0 : Nat)
        rw [show cmpI (a.getD k 0 : Nat) (b.getD k 0 : Nat) = 0 by unfold cmpI; rw [heq]; simp] at HCk
        have HCk := Lib.hid HCk
        clear heq hle HC HBf
        generalize a.getD k 0 = x at *
        generalize b.getD k 0 = y at *
        go_wp2_with fail
        refine (HCk.out _).mono ?_
        rintro e w' ⟨rfl, rfl⟩
        go_wp2
        go_round
        case rel => exact ⟨k + 1, by omega, by go_num, H.out⟩
        case measure => simp [intOf]; omega
      · have HCk := HC.out (a.getD k 0 : Nat) (b.getD k 0 : Nat)
        rw [show cmpI (a.getD k 0 : Nat) (b.getD k 0 : Nat) = -1 by unfold cmpI; rw [if_pos (by omega)]] at HCk
        have HCk := Lib.hid HCk
        clear heq hle HC HBf
        generalize a.getD k 0 = x at *
        generalize b.getD k 0 = y at *
        go_wp2_with fail
        refine (HCk.out _).mono ?_
        rintro e w' ⟨rfl, rfl⟩
        go_wp2
        go_ret
        exact ⟨rfl, rfl⟩
    · obtain rfl : k = a.length := by omega
      exact absurd HA.out HNe.out
theorem lexB_first : ∀ (a b : List Nat) (k : Nat), lexB a b = true → (∀ j, j < k → a.getD j 0 = b.getD j 0) → a.getD k 0 ≤ b.getD k 0
  | [], _, _, h, _ => by simp [lexB] at h
  | _ :: _, [], _, h, _ => by simp [lexB] at h
  | x :: a, y :: b, 0, h, _ => by
    simp only [lexB, Bool.or_eq_true, decide_eq_true_eq, Bool.and_eq_true, beq_iff_eq] at h
    simp; omega
  | x :: a, y :: b, k + 1, h, hj => by
    have h0 := hj 0 (by omega)
    simp at h0
    simp only [lexB, Bool.or_eq_true, decide_eq_true_eq, Bool.and_eq_true, beq_iff_eq] at h
    have h2 : lexB a b = true := by rcases h with h | h; · omega
                                    exact h.2
    have := lexB_first a b k h2 (fun j hjk => by have := hj (j + 1) (by omega); simpa using this)
    simpa using this
theorem lexB_ne : ∀ (a b : List Nat), lexB a b = true → ¬ ∀ j, j < a.length → a.getD j 0 = b.getD j 0
  | [], _, h => by simp [lexB] at h
  | _ :: _, [], h => by simp [lexB] at h
  | x :: a, y :: b, h => fun hj => by
    have h0 := hj 0 (by simp)
    simp at h0
    simp only [lexB, Bool.or_eq_true, decide_eq_true_eq, Bool.and_eq_true, beq_iff_eq] at h
    have h2 : lexB a b = true := by rcases h with h | h; · omega
                                    exact h.2
    exact lexB_ne a b h2 fun j hjk => by have := hj (j + 1) (by simpa using hjk); simpa using this
theorem lexs_at : ∀ (L : List (List Nat)) (k : Nat) (x y : List Nat), lexs L = true → L[k]? = some x → L[k + 1]? = some y → lexB x y = true
  | [], _, _, _, _, h, _ => by simp at h
  | [_], _, _, _, _, _, h => by simp at h
  | a :: b :: L, 0, x, y, h, h1, h2 => by
    simp at h1 h2
    subst h1 h2
    simp only [lexs, Bool.and_eq_true] at h
    exact h.1
  | a :: b :: L, k + 1, x, y, h, h1, h2 => by
    simp only [lexs, Bool.and_eq_true] at h
    exact lexs_at (b :: L) k x y h.2 (by simpa using h1) (by simpa using h2)
/-- Four cells are a slice of them. -/
theorem nats_four {w : World} {g o : Nat} {a b c d : Nat} (hh : g < w.heap.size) (h0 : w.cell? ⟨g, o, none⟩ = some (.int .i64 (a : Nat))) (h1 : w.cell? ⟨g, o + 1, none⟩ = some (.int .i64 (b : Nat))) (h2 : w.cell? ⟨g, o + 2, none⟩ = some (.int .i64 (c : Nat))) (h3 : w.cell? ⟨g, o + 3, none⟩ = some (.int .i64 (d : Nat))) (hb : a < 65536 ∧ b < 65536 ∧ c < 65536 ∧ d < 65536) :
    Nats w (.slice (some ⟨g, o, none⟩) 4 4) [a, b, c, d] := by
  refine ⟨⟨some ⟨g, o, none⟩, 4, rfl, by simp [ints, nats], by simp [ints, nats], by unfold maxLen; omega, .inr ⟨g, o, rfl, hh, fun k x hk => ?_⟩⟩, fun x hx => ?_⟩
  · match k, hk with
    | 0, hk => simp [ints, nats] at hk; rw [← hk]; exact h0
    | 1, hk => simp [ints, nats] at hk; rw [← hk]; exact h1
    | 2, hk => simp [ints, nats] at hk; rw [← hk]; exact h2
    | 3, hk => simp [ints, nats] at hk; rw [← hk]; exact h3
    | k + 4, hk => simp [ints, nats] at hk
  · simp [nats] at hx; unfold I64; omega
end Go.Proofs.Ytopmdmafameknaa
