/- tallyOf -/
import Derived.Test.YtpblbolflnjjnaaWg
import Derived.Laws.EntriesVeiled
namespace Go.Proofs.Ytpblbolflnjjnaa
open Go.RowKit

/-- A content as eight numbers. -/
def tallyS (m : List Int) : List Int := (List.range 8).map fun k => m.getD k 0

theorem Try.info87 : (zeroValue 87).run Try.prog = fun w => .ok (.agg #[.int .i64 0, .int .i64 0, .int .i64 0, .int .i64 0, .int .i64 0, .int .i64 0, .int .i64 0, .int .i64 0]) w := by
  funext w; kernel_rfl

def talK (m : List Int) (k : Nat) : List Int := (List.range 8).map fun j => if j < k then m.getD j 0 else 0

theorem talK_zero (m : List Int) : talK m 0 = [0, 0, 0, 0, 0, 0, 0, 0] := rfl
theorem talK_len (m : List Int) (k : Nat) : (talK m k).length = 8 := by simp [talK]
theorem talK_succ (m : List Int) (k : Nat) (_ : k < 8) : talK m (k + 1) = (talK m k).set k (m.getD k 0) := by
  refine List.ext_getElem (by simp [talK]) fun j h1 h2 => ?_
  simp only [talK, List.getElem_map, List.getElem_range, List.getElem_set]
  by_cases e : k = j
  · subst e; rw [if_pos rfl, if_pos (by omega)]
  · rw [if_neg e]
    by_cases e2 : j < k
    · rw [if_pos e2, if_pos (by omega)]
    · rw [if_neg e2, if_neg (by omega)]
theorem talK_all (m : List Int) (k : Nat) (hk : m.length ≤ k) : talK m k = tallyS m := by
  refine List.map_congr_left fun j hj => ?_
  split
  · rfl
  · rw [getD_over (by omega)]

theorem eight {l : List Int} (h : l.length = 8) : ∃ a b c d e f g i, l = [a, b, c, d, e, f, g, i] := by
  match l, h with
  | [a, b, c, d, e, f, g, i], _ => exact ⟨a, b, c, d, e, f, g, i, rfl⟩

set_option maxHeartbeats 1000000 in
theorem tallyOf_any (v : Value) (m : List Int) (w : World) (h : Ints w v m) (hl : m.length ≤ 8) :
    Calls Try.prog 104 #[v] w fun e w' => e = .returned (.agg (ints (tallyS m)).toArray) ∧ Below w.heap.size w w' := by
  obtain ⟨ao, cap, rfl, h1, h2, hc⟩ := h.open
  clear h
  go_enter Try.func104, Try.ntmps104
  go_wp2
  go_loopw [8] (fun s8 wr => ∃ k : Nat, k ≤ m.length ∧ s8 = .int .i64 k ∧ wr.heap[w.heap.size]? = some (.cells (ints [0, 0, 0, 0, 0, 0, 0, 0]).toArray 87 (0, 0)) ∧ wr.heap[w.heap.size + 1]? = some (.cells (ints (talK m k)).toArray 87 (0, 0)) ∧ Below w.heap.size w wr)
    (fun s8 _ => m.length - (intOf s8).toNat)
  case atStart =>
    refine ⟨0, Nat.zero_le _, rfl, ?_, ?_, ((Below.refl _ _).alloc (Nat.le_refl _) _).alloc (by simp) _⟩
    · show ((w.heap.push _).push _)[_]? = _
      simp only [Array.getElem?_push, Array.size_push]; (repeat rw [if_neg (by omega)]); simp [ints]
    · show ((w.heap.push _).push _)[_]? = _
      simp only [Array.getElem?_push, Array.size_push]; simp [ints, talK_zero]
  case round =>
    obtain ⟨k, hk, rfl, hA, hB, hb⟩ := hrel
    have hlen := talK_len m k
    by_cases hlt : k < m.length
    · obtain ⟨b, o, rfl, hck⟩ := hc k hlt
      have hck' := (hb.cell (p := ⟨b, o + k, none⟩) (World.block_lt_of_cell? w _ hck)).trans hck
      clear hck hc
      have cB : wr.cell? ⟨w.heap.size + 1, k, none⟩ = some (.int .i64 ((talK m k).getD k 0)) := by
        simp [World.cell?, hB, ints, show k < (talK m k).length by omega]
      have fB : wr.frozen? ⟨w.heap.size + 1, k, none⟩ = false := by simp [World.frozen?, hB]
      have HR : Hid ((wr.setCell ⟨w.heap.size + 1, k, none⟩ (.int .i64 (m.getD k 0))).heap[w.heap.size]? = some (.cells (ints [0, 0, 0, 0, 0, 0, 0, 0]).toArray 87 (0, 0)) ∧
          (wr.setCell ⟨w.heap.size + 1, k, none⟩ (.int .i64 (m.getD k 0))).heap[w.heap.size + 1]? = some (.cells (ints (talK m (k + 1))).toArray 87 (0, 0)) ∧ Below w.heap.size w (wr.setCell ⟨w.heap.size + 1, k, none⟩ (.int .i64 (m.getD k 0)))) := by
        refine ⟨?_, ?_, hb.setCell (by simp) _⟩
        · rw [Below.heap_setCell _ _ _ _ (by simp)]; exact hA
        · rw [heap_set_at hB, talK_succ m k (by omega)]; simp [ints, List.map_set]
      clear hA hB hb hlen
      have hk8 : k < 8 := by omega
      generalize m.getD k 0 = z at *
      generalize (talK m k).getD k 0 = y at *
      go_wp2
      go_roundw
      case rel => exact ⟨k + 1, by omega, by go_num, HR.out⟩
      case measure => simp [intOf]; omega
    · obtain rfl : k = m.length := by omega
      rw [talK_all m m.length (Nat.le_refl _)] at hB hlen
      obtain ⟨a0, a1, a2, a3, a4, a5, a6, a7, hE⟩ := eight hlen
      rw [hE] at hB
      have HE := hidIt hE
      have HB := hidIt hb
      have c0 : wr.cell? ⟨w.heap.size + 1, 0, none⟩ = some (.int .i64 a0) := by simp [World.cell?, hB, ints]
      have c1 : wr.cell? ⟨w.heap.size + 1, 1, none⟩ = some (.int .i64 a1) := by simp [World.cell?, hB, ints]
      have c2 : wr.cell? ⟨w.heap.size + 1, 2, none⟩ = some (.int .i64 a2) := by simp [World.cell?, hB, ints]
      have c3 : wr.cell? ⟨w.heap.size + 1, 3, none⟩ = some (.int .i64 a3) := by simp [World.cell?, hB, ints]
      have c4 : wr.cell? ⟨w.heap.size + 1, 4, none⟩ = some (.int .i64 a4) := by simp [World.cell?, hB, ints]
      have c5 : wr.cell? ⟨w.heap.size + 1, 5, none⟩ = some (.int .i64 a5) := by simp [World.cell?, hB, ints]
      have c6 : wr.cell? ⟨w.heap.size + 1, 6, none⟩ = some (.int .i64 a6) := by simp [World.cell?, hB, ints]
      have c7 : wr.cell? ⟨w.heap.size + 1, 7, none⟩ = some (.int .i64 a7) := by simp [World.cell?, hB, ints]
      have d0 : wr.cell? ⟨w.heap.size, 0, none⟩ = some (.int .i64 0) := by simp [World.cell?, hA, ints]
      have f0 : wr.frozen? ⟨w.heap.size, 0, none⟩ = false := by simp [World.frozen?, hA]
      have d1 : wr.cell? ⟨w.heap.size, 1, none⟩ = some (.int .i64 0) := by simp [World.cell?, hA, ints]
      have f1 : wr.frozen? ⟨w.heap.size, 1, none⟩ = false := by simp [World.frozen?, hA]
      have d2 : wr.cell? ⟨w.heap.size, 2, none⟩ = some (.int .i64 0) := by simp [World.cell?, hA, ints]
      have f2 : wr.frozen? ⟨w.heap.size, 2, none⟩ = false := by simp [World.frozen?, hA]
      have d3 : wr.cell? ⟨w.heap.size, 3, none⟩ = some (.int .i64 0) := by simp [World.cell?, hA, ints]
      have f3 : wr.frozen? ⟨w.heap.size, 3, none⟩ = false := by simp [World.frozen?, hA]
      have d4 : wr.cell? ⟨w.heap.size, 4, none⟩ = some (.int .i64 0) := by simp [World.cell?, hA, ints]
      have f4 : wr.frozen? ⟨w.heap.size, 4, none⟩ = false := by simp [World.frozen?, hA]
      have d5 : wr.cell? ⟨w.heap.size, 5, none⟩ = some (.int .i64 0) := by simp [World.cell?, hA, ints]
      have f5 : wr.frozen? ⟨w.heap.size, 5, none⟩ = false := by simp [World.frozen?, hA]
      have d6 : wr.cell? ⟨w.heap.size, 6, none⟩ = some (.int .i64 0) := by simp [World.cell?, hA, ints]
      have f6 : wr.frozen? ⟨w.heap.size, 6, none⟩ = false := by simp [World.frozen?, hA]
      have d7 : wr.cell? ⟨w.heap.size, 7, none⟩ = some (.int .i64 0) := by simp [World.cell?, hA, ints]
      have f7 : wr.frozen? ⟨w.heap.size, 7, none⟩ = false := by simp [World.frozen?, hA]
      clear hc hb hlen hE hB hA
      go_wp2
      refine bodyPost_ret (v := .agg #[.int .i64 a0, .int .i64 a1, .int .i64 a2, .int .i64 a3, .int .i64 a4, .int .i64 a5, .int .i64 a6, .int .i64 a7]) (by simp [results, Try.results104, go_sem, d0, d1, d2, d3, d4, d5, d6, d7]) rfl ⟨?_, ?_⟩
      · rw [HE.out]; simp [ints]
      · exact (((((((HB.out.setCell (by simp) _).setCell (by simp) _).setCell (by simp) _).setCell (by simp) _).setCell (by simp) _).setCell (by simp) _).setCell (by simp) _).setCell (by simp) _
end Go.Proofs.Ytpblbolflnjjnaa
