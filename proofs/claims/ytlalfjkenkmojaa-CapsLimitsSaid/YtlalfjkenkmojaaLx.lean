/- CapsLimits: what the walks share -/
import Derived.Test.YtlalfjkenkmojaaKp
import Derived.Test.YtlalfjkenkmojaaL7
namespace Go.Proofs.Ytlalfjkenkmojaa
open Go.RowKit

theorem tabS (c : Nat) (h1 : 1 ≤ c) (h3 : c ≤ 3) (w : World) : (Instr.index 59 (.agg #[.int .i64 0, .int .i64 1, .int .i64 4, .int .i64 13]) (.int .i64 c)).run Try.prog w = .ok (.int .i64 (limS c : Nat)) w := by
  have e1 : (Instr.index 59 (.agg #[.int .i64 0, .int .i64 1, .int .i64 4, .int .i64 13]) (.int .i64 1)).run Try.prog w = .ok (.int .i64 1) w := by kernel_rfl
  have e2 : (Instr.index 59 (.agg #[.int .i64 0, .int .i64 1, .int .i64 4, .int .i64 13]) (.int .i64 2)).run Try.prog w = .ok (.int .i64 4) w := by kernel_rfl
  have e3 : (Instr.index 59 (.agg #[.int .i64 0, .int .i64 1, .int .i64 4, .int .i64 13]) (.int .i64 3)).run Try.prog w = .ok (.int .i64 13) w := by kernel_rfl
  match c, h1, h3 with
  | 1, _, _ => exact e1
  | 2, _, _ => exact e2
  | 3, _, _ => exact e3
theorem tabW (c : Nat) (h1 : 1 ≤ c) (h3 : c ≤ 3) (w : World) : (Instr.index 59 (.agg #[.int .i64 0, .int .i64 2, .int .i64 8, .int .i64 26]) (.int .i64 c)).run Try.prog w = .ok (.int .i64 (limW c : Nat)) w := by
  have e1 : (Instr.index 59 (.agg #[.int .i64 0, .int .i64 2, .int .i64 8, .int .i64 26]) (.int .i64 1)).run Try.prog w = .ok (.int .i64 2) w := by kernel_rfl
  have e2 : (Instr.index 59 (.agg #[.int .i64 0, .int .i64 2, .int .i64 8, .int .i64 26]) (.int .i64 2)).run Try.prog w = .ok (.int .i64 8) w := by kernel_rfl
  have e3 : (Instr.index 59 (.agg #[.int .i64 0, .int .i64 2, .int .i64 8, .int .i64 26]) (.int .i64 3)).run Try.prog w = .ok (.int .i64 26) w := by kernel_rfl
  match c, h1, h3 with
  | 1, _, _ => exact e1
  | 2, _, _ => exact e2
  | 3, _, _ => exact e3
theorem tabV (c : Nat) (h1 : 1 ≤ c) (h3 : c ≤ 3) (w : World) : (Instr.index 59 (.agg #[.int .i64 0, .int .i64 3, .int .i64 34, .int .i64 40]) (.int .i64 c)).run Try.prog w = .ok (.int .i64 (limV c : Nat)) w := by
  have e1 : (Instr.index 59 (.agg #[.int .i64 0, .int .i64 3, .int .i64 34, .int .i64 40]) (.int .i64 1)).run Try.prog w = .ok (.int .i64 3) w := by kernel_rfl
  have e2 : (Instr.index 59 (.agg #[.int .i64 0, .int .i64 3, .int .i64 34, .int .i64 40]) (.int .i64 2)).run Try.prog w = .ok (.int .i64 34) w := by kernel_rfl
  have e3 : (Instr.index 59 (.agg #[.int .i64 0, .int .i64 3, .int .i64 34, .int .i64 40]) (.int .i64 3)).run Try.prog w = .ok (.int .i64 40) w := by kernel_rfl
  match c, h1, h3 with
  | 1, _, _ => exact e1
  | 2, _, _ => exact e2
  | 3, _, _ => exact e3

/-- A colouring that a call returned: n colours, their cells. -/
def Cells (w : World) (ao : Option Addr) (n c : Nat) (r : List Nat) : Prop := ∀ k, k < n → ∃ b o, ao = some ⟨b, o, none⟩ ∧ w.cell? ⟨b, o + k, none⟩ = some (.int .i64 (r.getD k 0 : Nat)) ∧ r.getD k 0 < c
theorem cells_of {w : World} {v : Value} {r : List Nat} {n c : Nat} (h : Nats w v r) (hn : r.length = n) (hc : ∀ x ∈ r, x < c) : ∃ ao cap, v = .slice ao n cap ∧ n ≤ cap ∧ Cells w ao n c r := by
  obtain ⟨ao, cap, e, h1, _, hx⟩ := h.open
  rw [hn] at e h1 hx
  exact ⟨ao, cap, e, h1, fun k hk => by
    obtain ⟨b, o, e1, e2⟩ := hx k hk
    exact ⟨b, o, e1, e2, hc _ (natD_mem (by omega))⟩⟩
theorem Cells.below {w w' : World} {ao : Option Addr} {n c : Nat} {r : List Nat} (h : Cells w ao n c r) (hb : Below w.heap.size w w') : Cells w' ao n c r := fun k hk => by
  obtain ⟨b, o, e1, e2, e3⟩ := h k hk
  exact ⟨b, o, e1, ck e2 hb, e3⟩
theorem empty_of {w : World} {v : Value} (h : Nats w v []) : ∃ ao cap, v = .slice ao 0 cap := by
  obtain ⟨ao, cap, e, _⟩ := Nats.open h
  exact ⟨ao, cap, e⟩
theorem schur_ok (n c : Nat) (w : World) (h1 : 1 ≤ n) (h2 : n ≤ 40) (h3 : 1 ≤ c) (h4 : c ≤ 3) (hn : n ≤ limS c) : ∃ r, (∀ x y, x + y + 1 < n → ¬ (r.getD x 0 = r.getD (x + y + 1) 0 ∧ r.getD y 0 = r.getD (x + y + 1) 0)) ∧
    Calls Try.prog 45 #[.int .i64 n, .int .i64 c] w fun e w' => ∃ ao cap, e = .returned (.tuple #[.slice ao n cap, .int .i64 0]) ∧ n ≤ cap ∧ Cells w' ao n c r ∧ Below w.heap.size w w' := by
  obtain ⟨r, hr⟩ := schur_yes h3 h4 hn
  obtain ⟨f1, f2, f3⟩ := found_of hr
  refine ⟨r, fun x y hxy => (keeps_sum r).1 f3 x y (by omega), ?_⟩
  have h := Schur_any n c w h1 h2 h3 h4
  rw [hr] at h
  refine h.mono ?_
  rintro e w' ⟨v', rfl, hv, hb⟩
  obtain ⟨ao, cap, rfl, hcap, hc⟩ := cells_of (r := r) hv f1 f2
  exact ⟨ao, cap, rfl, hcap, hc, hb⟩
theorem schur_none (n c : Nat) (w : World) (h1 : 1 ≤ n) (h2 : n ≤ 40) (h3 : 1 ≤ c) (h4 : c ≤ 3) (hn : limS c < n) :
    Calls Try.prog 45 #[.int .i64 n, .int .i64 c] w fun e w' => ∃ ao cap, e = .returned (.tuple #[.slice ao 0 cap, .int .i64 4]) ∧ Below w.heap.size w w' := by
  have h := Schur_any n c w h1 h2 h3 h4
  rw [schur_no h3 h4 hn] at h
  refine h.mono ?_
  rintro e w' ⟨v', rfl, hv, hb⟩
  obtain ⟨ao, cap, rfl⟩ := empty_of hv
  exact ⟨ao, cap, rfl, hb⟩
theorem wa3_ok (n c : Nat) (h1 : 1 ≤ n) (h2 : n ≤ 40) (h3 : 1 ≤ c) (h4 : c ≤ 3) (h5 : c = 3 → n ≤ 27) (hn : n ≤ limW c) : ∃ r, (∀ a b, 1 ≤ b → a + 2 * b < n → ¬ (r.getD (a + b) 0 = r.getD a 0 ∧ r.getD (a + 2 * b) 0 = r.getD a 0)) ∧
    ∀ w : World, Calls Try.prog 47 #[.int .i64 n, .int .i64 c, .int .i64 3] w fun e w' => ∃ ao cap, e = .returned (.tuple #[.slice ao n cap, .int .i64 0]) ∧ n ≤ cap ∧ Cells w' ao n c r ∧ Below w.heap.size w w' := by
  obtain ⟨r, hr⟩ := wa_yes h3 h4 hn
  obtain ⟨f1, f2, f3⟩ := found_of hr
  refine ⟨r, fun a b hb hab => (keeps3 r).1 f3 a b hb (by omega), fun w => ?_⟩
  have h := Waerden3_any n c w h1 h2 h3 h4 h5
  rw [hr] at h
  refine h.mono ?_
  rintro e w' ⟨v', rfl, hv, hb⟩
  obtain ⟨ao, cap, rfl, hcap, hc⟩ := cells_of (r := r) hv f1 f2
  exact ⟨ao, cap, rfl, hcap, hc, hb⟩
theorem wa3_none (n c : Nat) (w : World) (h1 : 1 ≤ n) (h2 : n ≤ 40) (h3 : 1 ≤ c) (h4 : c ≤ 3) (h5 : c = 3 → n ≤ 27) (hn : limW c < n) :
    Calls Try.prog 47 #[.int .i64 n, .int .i64 c, .int .i64 3] w fun e w' => ∃ ao cap, e = .returned (.tuple #[.slice ao 0 cap, .int .i64 4]) ∧ Below w.heap.size w w' := by
  have h := Waerden3_any n c w h1 h2 h3 h4 h5
  rw [wa_no h3 h4 hn] at h
  refine h.mono ?_
  rintro e w' ⟨v', rfl, hv, hb⟩
  obtain ⟨ao, cap, rfl⟩ := empty_of hv
  exact ⟨ao, cap, rfl, hb⟩
theorem wa4_ok (n c : Nat) (h1 : 1 ≤ n) (h2 : n ≤ 40) (h3 : 1 ≤ c) (h4 : c ≤ 3) (h5 : c = 3 → n ≤ 27) (hn : n ≤ limV c) : ∃ r, (∀ a b, 1 ≤ b → a + 3 * b < n → ¬ (r.getD (a + b) 0 = r.getD a 0 ∧ r.getD (a + 2 * b) 0 = r.getD a 0 ∧ r.getD (a + 3 * b) 0 = r.getD a 0)) ∧
    ∀ w : World, Calls Try.prog 47 #[.int .i64 n, .int .i64 c, .int .i64 4] w fun e w' => ∃ ao cap, e = .returned (.tuple #[.slice ao n cap, .int .i64 0]) ∧ n ≤ cap ∧ Cells w' ao n c r ∧ Below w.heap.size w w' := by
  obtain ⟨r, hr⟩ := wv_yes h3 h4 h5 hn
  obtain ⟨f1, f2, f3⟩ := found_of hr
  refine ⟨r, fun a b hb hab => (keeps4 r).1 f3 a b hb (by omega), fun w => ?_⟩
  have h := Waerden4_any n c w h1 h2 h3 h4 h5
  rw [hr] at h
  refine h.mono ?_
  rintro e w' ⟨v', rfl, hv, hb⟩
  obtain ⟨ao, cap, rfl, hcap, hc⟩ := cells_of (r := r) hv f1 f2
  exact ⟨ao, cap, rfl, hcap, hc, hb⟩
theorem wa4_none (n c : Nat) (w : World) (h1 : 1 ≤ n) (h2 : n ≤ 40) (h3 : 1 ≤ c) (h4 : c ≤ 3) (h5 : c = 3 → n ≤ 27) (hn : limV c < n) :
    Calls Try.prog 47 #[.int .i64 n, .int .i64 c, .int .i64 4] w fun e w' => ∃ ao cap, e = .returned (.tuple #[.slice ao 0 cap, .int .i64 4]) ∧ Below w.heap.size w w' := by
  have h := Waerden4_any n c w h1 h2 h3 h4 h5
  rw [wv_no h3 h4 h5 hn] at h
  refine h.mono ?_
  rintro e w' ⟨v', rfl, hv, hb⟩
  obtain ⟨ao, cap, rfl⟩ := empty_of hv
  exact ⟨ao, cap, rfl, hb⟩
end Go.Proofs.Ytlalfjkenkmojaa
