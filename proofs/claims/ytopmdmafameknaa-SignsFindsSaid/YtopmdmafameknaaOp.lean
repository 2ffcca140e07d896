/- Arguments, opened. -/
import Derived.Test.YtopmdmafameknaaLib
import Derived.ProofKit
import Derived.OpenShut
import Derived.SizedLaws
namespace Go.Proofs.Ytopmdmafameknaa
open Go.RowKit

theorem wf_I64 {n : Int} (h : (Lit.int .i64 n).wf = true) : I64 n := by
  have := bounds_i64 h
  unfold I64
  omega

theorem Ints.nil (w : World) : Ints w (.slice none 0 0) [] := ⟨⟨none, 0, rfl, Nat.le_refl _, Nat.zero_le _, Nat.zero_le _, .inl rfl⟩, by simp⟩

theorem ints_of_open {w : World} {a : Addr} {len cap : Nat} {zs : List Int} (hl : len ≤ cap) (hm : cap ≤ maxLen) (hz : zs.length = cap) (hcell : ∀ i, i < zs.length → w.cell? (a.add i) = some (.int .i64 (zs.getD i 0)))
    (hwz : ∀ n ∈ zs, (Lit.int .i64 n).wf = true) (hr : len ≤ 17592186044416) : Ints w (.slice (some a) len cap) (zs.take len) := by
  have hlen : (zs.take len).length = len := by rw [List.length_take]; omega
  refine ⟨⟨some a, cap, by rw [ints_length, hlen], by rw [ints_length, hlen]; exact hl, by rw [ints_length, hlen]; exact hr, hm, ?_⟩, fun x hx => wf_I64 (hwz x (List.mem_of_mem_take hx))⟩
  rcases Nat.eq_zero_or_pos len with h0 | h0
  · left; subst h0; rfl
  · right
    have hc0 := hcell 0 (by omega)
    obtain ⟨b, o, spot⟩ := a
    obtain rfl : spot = none := by
      cases spot with
      | none => rfl
      | some s => simp [World.cell?, Addr.add] at hc0; split at hc0 <;> simp at hc0
    refine ⟨b, o, rfl, World.block_lt_of_cell? w _ hc0, fun k x hx => ?_⟩
    have hk : k < len := by
      have := (List.getElem?_eq_some_iff.1 hx).1
      rw [ints_length, hlen] at this; exact this
    have := hcell k (by omega)
    rw [Addr.add_lit] at this
    rw [this]
    have e : (ints (zs.take len))[k]? = some (.int .i64 (zs.getD k 0)) := by simp [ints, hk, show k < zs.length by omega]
    rw [e] at hx
    exact hx
end Go.Proofs.Ytopmdmafameknaa
