/- mirrorsOf; the steps; newTable's first loop -/
import Derived.Test.YtlnbodpdgebflaaNs
namespace Go.Proofs.Ytlnbodpdgebflaa
open Go.RowKit

set_option maxHeartbeats 400000 in
theorem mirrorsOf_any (g : Nat) (hg : g < 17) (w : World) : Calls Try.prog 79 #[gV (kd g) (nm g)] w fun e w' => e = .returned (.int .i64 (kM g)) ∧ Below w.heap.size w w' := by
  by_cases h : kd g = 73
  · have hk : Hid (kM g = 2) := Lib.hid (by rcases kinds hg with q | q | q <;> omega)
    rw [h]
    go_enter Try.func79, Try.ntmps79
    go_wp2
    go_ret
    exact ⟨by rw [hk.out]; rfl, (Below.refl _ _).alloc (Nat.le_refl _) _⟩
  · have hk : Hid (kM g = nm g) := Lib.hid (by rcases kinds hg with q | q | q <;> omega)
    have hn : ((kd g : Int) == 73) = false := beq_eq_false_iff_ne.2 (by omega)
    generalize kd g = k at *
    clear h
    go_enter Try.func79, Try.ntmps79
    go_wp2
    go_ret
    exact ⟨by rw [hk.out]; rfl, (Below.refl _ _).alloc (Nat.le_refl _) _⟩

theorem Try.info117 : (Try.prog.info? 117).map (fun i => (i.zero, i.size, i.bytes)) = some (some (.agg (byt fun _ => 0)), 24, 24) := by kernel_rfl
def zer (k : Nat) : Array Value := madeCells (byt fun _ => 0) (k * 24)
theorem run_make115 (n : Nat) (hn : n ≤ 1000) (W : World) : (Instr.makeSlice 115 (.int .i64 n) (.int .i64 n)).run Try.prog W = .ok (.slice (some ⟨W.heap.size, 0, none⟩) n n) (W.alloc (.cells (zer n) 117)) := by
  obtain ⟨i3, hi3, hz0, hz1, hz2⟩ := info_parts Try.info117
  have h := run_make (P := Try.prog) W 115 117 i3 (.agg (byt fun _ => 0)) Try.underlying115 hi3 hz0 .i64 .i64 (n : Int) (n : Int) (by omega) (by omega) (by rw [hz2]; omega) (by omega)
  rw [h, hz1]
  simp only [Int.toNat_natCast]
  rfl
theorem setCells_heap (B : Nat) : ∀ (vs : List Value) (o : Nat) (W : World) (b : Nat), b ≠ B → (W.setCells B o vs).heap[b]? = W.heap[b]?
  | [], _, _, _, _ => rfl
  | v :: vs, o, W, b, h => by
    show ((W.setCell ⟨B, o, none⟩ v).setCells B (o + 1) vs).heap[b]? = _
    rw [setCells_heap B vs (o + 1) _ b h]
    exact Below.heap_setCell _ _ _ _ h
theorem wpl_storeMid {ops : Array Oper} {rest : List Oper} {o : Oper} {a : Act} {w : World} {Q : Exit → Act → World → Prop} (hgd : o.guard = none) (x y : Operand) (ho : o.op = .store 117 x y)
    (B off : Nat) (f : Nat → Nat) (hx : a.eval x = .pointer (some ⟨B, off, none⟩)) (hy : a.eval y = .agg (byt f)) (ht : w.there B off 24)
    (h : ∀ w' : World, Hid (w' = w.setCells B off (byt f).toList) → wpList Try.prog ops Q rest (a.put o.dst undef) w') : wpList Try.prog ops Q (o :: rest) a w :=
  wpList_store_mid hgd 117 x y ho B off _ hx hy (by rw [byt_size]; exact ht) (by rw [byt_size]; exact i117) (byt_one _) (h _ (Lib.hid rfl))
theorem wpl_loadMid {ops : Array Oper} {rest : List Oper} {o : Oper} {a : Act} {w : World} {Q : Exit → Act → World → Prop} (hgd : o.guard = none) (x : Operand) (ho : o.op = .load 117 x)
    (B off : Nat) (f : Nat → Nat) (hx : a.eval x = .pointer (some ⟨B, off, none⟩)) (hr : w.rangeAt B off (byt f).toList)
    (h : wpList Try.prog ops Q rest (a.put o.dst (.agg (byt f))) w) : wpList Try.prog ops Q (o :: rest) a w :=
  wpList_load_mid hgd 117 x ho B off hx (byt f).toList _ hr u117 rfl (by rw [Array.length_toList, byt_size]; exact i117) (by simpa using h)

theorem Sts.start (W : World) (g n : Nat) (hz : kM g = n) : Sts (W.alloc (.cells (zer n) 117)) g W.heap.size 0 := by
  refine ⟨fun s hs => absurd hs (by omega), fun j hj => ?_⟩
  have hb : Blk 117 (W.alloc (.cells (zer n) 117)) W.heap.size (zer n) := Blk.new _ _ _
  refine ⟨?_, hb.fr _⟩
  rw [hb.cell]
  have : (zer n).size = n * 24 := by simp [zer, madeCells, byt_size]
  rw [hz] at hj
  simp [this, hj]
theorem Sts.step {W : World} {g S m : Nat} (h : Sts W g S m) (hm : m < kM g) : Sts (W.setCells S (m * 24) (byt (tn g (rt g 0 m))).toList) g S (m + 1) := by
  have hl : (byt (tn g (rt g 0 m))).toList.length = 24 := by rw [Array.length_toList, byt_size]
  have ht : W.there S (m * 24) 24 := fun j hj => by have := h.th (m * 24 + j) (by omega); rwa [Nat.zero_add] at this
  refine ⟨fun s hs => ?_, World.there_setCells h.th _ _ _⟩
  by_cases e : s = m
  · subst e; exact World.rangeAt_setCells_same W S _ _ (by rw [hl]; exact ht)
  · exact World.rangeAt_setCells_apart (h.r s (by omega)) S _ _ (.inr (.inl (by rw [Array.length_toList, byt_size]; omega)))
end Go.Proofs.Ytlnbodpdgebflaa
