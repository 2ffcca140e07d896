/- planes: open -/
import Derived.Test.YtllokfkagneneaaN
namespace Go.Proofs.Ytllokfkagneneaa
open Go.RowKit

/-- What open says of numbers: all are those of points. -/
def inB (p : Nat) (xs : List Int) : Bool := xs.all fun x => decide (0 ≤ x) && decide (x < (np p : Nat))

theorem inB_false {p : Nat} {xs : List Int} {k : Nat} (hk : k < xs.length) (h : ¬ (0 ≤ xs.getD k 0 ∧ xs.getD k 0 < (np p : Nat))) : inB p xs = false := by
  unfold inB
  rw [List.all_eq_false]
  exact ⟨_, getD_mem hk, by simpa using h⟩
theorem inB_true {p : Nat} {xs : List Int} (h : ∀ k : Nat, k < xs.length → 0 ≤ xs.getD k 0 ∧ xs.getD k 0 < (np p : Nat)) : inB p xs = true := by
  unfold inB
  rw [List.all_eq_true]
  intro x hx
  obtain ⟨k, hk, rfl⟩ := mem_getD hx
  simpa using h k hk

theorem ckk {W w1 : World} {a : Addr} {v : Value} (h : W.cell? a = some v) (hb : Below W.heap.size W w1) : w1.cell? a = some v := (hb.cell (World.block_lt_of_cell? W _ h)).trans h

def OpenPost (w : World) (p : Nat) (ok : Bool) (e : Ending) (w' : World) : Prop :=
  if ok = true then ∃ b, e = .returned (.tuple #[.pointer (some ⟨b, 0, none⟩), .int .i64 0]) ∧ w.heap.size ≤ b ∧ PlaneAt w' b p ∧ Below w.heap.size w w'
  else e = .returned (.tuple #[.pointer none, .int .i64 2]) ∧ Below w.heap.size w w'

set_option maxHeartbeats 2000000 in
theorem open_bad (p : Int) (v : Value) (w : World) (hp : isP p = false) :
    Calls Try.prog 67 #[.int .i64 p, v] w fun e w' => e = .returned (.tuple #[.pointer none, .int .i64 2]) ∧ w = w' := by
  simp [isP] at hp
  have h2 : (p == 2) = false := by simp; omega
  have h3 : (p == 3) = false := by simp; omega
  have h5 : (p == 5) = false := by simp; omega
  have h7 : (p == 7) = false := by simp; omega
  clear hp
  go_enter Try.func67, Try.ntmps67
  go_wp2
  go_ret2
  exact ⟨rfl, rfl⟩

set_option maxHeartbeats 4000000 in
set_option maxRecDepth 100000 in
theorem open_good (p : Nat) (v : Value) (xs : List Int) (w : World) (hp : isPn p) (h : Ints w v xs) :
    Calls Try.prog 67 #[.int .i64 p, v] w (OpenPost w p (inB p xs)) := by
  obtain ⟨ao, cap, rfl, h1, h2, hx⟩ := h.open
  have HX := Lib.hid hx
  have HN := Lib.hid (newPlane_any p w hp)
  have hnp : np p ≤ 57 := np_le p hp.le.2
  obtain ⟨n, hn⟩ : ∃ n, n = np p := ⟨_, rfl⟩
  have HF0 : Hid (∀ k : Nat, k < xs.length → ¬ (0 ≤ xs.getD k 0 ∧ xs.getD k 0 < (n : Nat)) → inB p xs = false) := by rw [hn]; exact fun k hk h => inB_false hk h
  have HT0 : Hid ((∀ k : Nat, k < xs.length → 0 ≤ xs.getD k 0 ∧ xs.getD k 0 < (n : Nat)) → inB p xs = true) := by rw [hn]; exact fun h => inB_true h
  have HOp : Hid (∀ w b, PlaneAt w b p → ∃ c cap, w.cell? ⟨b, 1, none⟩ = some (.slice (some ⟨c, 0, none⟩) n cap) ∧ n ≤ cap) := by
    rw [hn]; intro w b h; obtain ⟨c, cap, _, h1, h2, _⟩ := h.open; exact ⟨c, cap, h1, h2⟩
  rw [← hn] at hnp
  clear h hx hn
  rcases hp with rfl | rfl | rfl | rfl
  all_goals
    go_enter Try.func67, Try.ntmps67
    go_wp2_with fail
    refine HN.out.mono ?_
    rintro e w1 ⟨b, rfl, hb, hP, hbel⟩
    obtain ⟨c, capc, c1, hcc⟩ := HOp.out w1 b hP
    have HP := Lib.hid hP
    have HB := Lib.hid hbel
    clear hP hbel HN HOp
    go_wp2_with fail
    go_loop [19] (fun i => ∃ k : Nat, k ≤ xs.length ∧ i = .int .i64 k ∧ ∀ j : Nat, j < k → 0 ≤ xs.getD j 0 ∧ xs.getD j 0 < (n : Nat)) (fun i => xs.length - (intOf i).toNat)
    case atStart => exact ⟨0, Nat.zero_le _, rfl, fun j hj => absurd hj (by omega)⟩
    case round =>
      obtain ⟨k, hk, rfl, hall⟩ := hrel
      have HA := Lib.hid hall
      clear hall
      by_cases hlt : k < xs.length
      · obtain ⟨bx, ox, rfl, hck⟩ := HX.out k hlt
        have hck' := ckk hck HB.out
        clear hck
        have HF := Lib.hid (HF0.out k hlt)
        have H := Lib.hid (fun (h : 0 ≤ xs.getD k 0 ∧ xs.getD k 0 < (n : Nat)) (j : Nat) (hj : j < k + 1) => if e : j = k then e ▸ h else HA.out j (by omega))
        generalize xs.getD k 0 = x at *
        by_cases c1 : x < 0
        · go_wp2
          go_ret2
          unfold OpenPost
          rw [HF.out (by omega)]
          exact ⟨rfl, HB.out⟩
        · by_cases c2 : x < n
          · go_wp2
            go_round
            case rel => exact ⟨k + 1, by omega, by go_num, H.out ⟨by omega, c2⟩⟩
            case measure => simp [intOf]; omega
          · go_wp2
            go_ret2
            unfold OpenPost
            rw [HF.out (by omega)]
            exact ⟨rfl, HB.out⟩
      · obtain rfl : k = xs.length := by omega
        have HT := Lib.hid (HT0.out HA.out)
        go_wp2
        go_ret2
        unfold OpenPost
        rw [HT.out]
        exact ⟨b, rfl, hb, HP.out, HB.out⟩
end Go.Proofs.Ytllokfkagneneaa
