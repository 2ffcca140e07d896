/- planes: Index of triples -/
import Derived.Test.YtllokfkagneneaaD
import Derived.Test.YtllokfkagneneaaQ
namespace Go.Proofs.Ytllokfkagneneaa
open Go.RowKit

def idxS (xs : List T3) (t : T3) : Int := (xs.findIdx? (· == t)).elim (-1) fun (i : Nat) => (i : Int)
theorem idxS_some {xs : List T3} {t : T3} {k : Nat} (hk : k < xs.length) (h : ∀ j u, j < k → xs[j]? = some u → u ≠ t) (h1 : xs[k]? = some t) : idxS xs t = k := by
  have : xs.findIdx? (· == t) = some k := by
    rw [List.findIdx?_eq_some_iff_getElem]
    refine ⟨hk, ?_, fun j hj => ?_⟩
    · have := (List.getElem?_eq_some_iff.1 h1).2; simp [this]
    · have := h j xs[j] hj (by simp [show j < xs.length by omega]); simpa using this
  unfold idxS; rw [this]; rfl
theorem idxS_none {xs : List T3} {t : T3} (h : ∀ j u, j < xs.length → xs[j]? = some u → u ≠ t) : idxS xs t = -1 := by
  have : xs.findIdx? (· == t) = none := by
    rw [List.findIdx?_eq_none_iff]
    intro u hu
    obtain ⟨j, hj, rfl⟩ := List.mem_iff_getElem.1 hu
    simpa using h j xs[j] hj (by simp)
  unfold idxS; rw [this]; rfl

set_option maxHeartbeats 1000000 in
theorem index3_any (v : Value) (xs : List T3) (a b c : Int) (w : World) (h : Tris w v xs) :
    Calls Try.prog 113 #[v, tri a b c] w fun e w' => e = .returned (.int .i64 (idxS xs (a, b, c))) ∧ Below w.heap.size w w' := by
  obtain ⟨g, cap, rfl, h1, h2, h3, h4, h5⟩ := h
  have HX := Lib.hid h5
  clear h5
  go_enter Try.func113, Try.ntmps113
  go_wp2
  go_loopw [8] (fun i wr => ∃ k m : Nat, k ≤ xs.length ∧ i = .int .i64 k ∧ (∀ j u, j < k → xs[j]? = some u → u ≠ (a, b, c)) ∧ wr = (w.alloc (.cells #[.int .i64 a, .int .i64 b, .int .i64 c] 31)).drewN m) (fun i _ => xs.length - (intOf i).toNat)
  case atStart => exact ⟨0, 0, Nat.zero_le _, rfl, fun j u hj => absurd hj (by omega), rfl⟩
  case round =>
    obtain ⟨k, m, hk, rfl, hall, rfl⟩ := hrel
    have HA := Lib.hid hall
    clear hall
    by_cases hlt : k < xs.length
    · obtain ⟨⟨x, y, z⟩, ht⟩ : ∃ t, xs[k]? = some t := ⟨xs[k], by simp [hlt]⟩
      obtain ⟨c1, c2, c3⟩ := HX.out k _ ht
      have HT := Lib.hid ht
      clear ht
      by_cases heq : (a, b, c) = (x, y, z)
      · have he : ∀ w, (binOp .eql 31 (tri a b c) (tri x y z)).run Try.prog w = .ok (.bool true) w := fun w => by rw [run_eql_tri, decide_eq_true heq]
        have HI := Lib.hid (idxS_some hlt HA.out (by rw [heq]; exact HT.out))
        clear heq
        go_wp2
        go_quiet (fail)
        go_wp2
        go_ret
        exact ⟨ret_int HI.out.symm, below_drewN (below_drewN ((Below.refl _ _).alloc (Nat.le_refl _) _) _) _⟩
      · have he : ∀ w, (binOp .eql 31 (tri a b c) (tri x y z)).run Try.prog w = .ok (.bool false) w := fun w => by rw [run_eql_tri, decide_eq_false heq]
        have H : Hid (∀ j u, j < k + 1 → xs[j]? = some u → u ≠ (a, b, c)) := by
          intro j u hj hu
          by_cases e : j = k
          · subst e; rw [HT.out] at hu; cases hu; exact fun h => heq h.symm
          · exact HA.out j u (by omega) hu
        clear heq
        go_wp2
        go_quiet (fail)
        go_wp2
        go_roundw
        case rel => exact ⟨k + 1, m + nq, by omega, by go_num, H.out, by first | rfl | rw [World.drewN_drewN]⟩
        case measure => simp [intOf]; omega
    · obtain rfl : k = xs.length := by omega
      have HI := Lib.hid (idxS_none HA.out)
      go_wp2
      go_ret
      exact ⟨ret_int HI.out.symm, below_drewN ((Below.refl _ _).alloc (Nat.le_refl _) _) _⟩
end Go.Proofs.Ytllokfkagneneaa
