/- turns: arrays of 24 bytes; still, before, swap, mirrorOf -/
import Derived.Test.YtlnbodpdgebflaaGd
import Derived.Test.YtlnbodpdgebflaaSa
import Derived.Deep.MidRow
import Derived.Laws.Tables
import Derived.IntWalk
namespace Go.Proofs.Ytlnbodpdgebflaa
open Go.RowKit

/-- 24 bytes. -/
def byt (f : Nat → Nat) : Array Value := ((List.range 24).map fun p => Value.int .u8 (f p : Nat)).toArray
theorem byt_size (f : Nat → Nat) : (byt f).size = 24 := by simp [byt]
theorem byt_get (f : Nat → Nat) {p : Nat} (hp : p < 24) : (byt f)[p]? = some (.int .u8 (f p : Nat)) := by simp [byt, hp]
theorem byt_congr {f g : Nat → Nat} (h : ∀ p, p < 24 → f p = g p) : byt f = byt g := by
  unfold byt
  congr 1
  exact List.map_congr_left fun p hp => by rw [h p (List.mem_range.1 hp)]
theorem byt_set (f : Nat → Nat) (p v : Nat) : (byt f).setIfInBounds p (.int .u8 (v : Nat)) = byt (fun q => if q = p then v else f q) := by
  apply Array.ext_getElem?
  intro i
  rw [Array.getElem?_setIfInBounds]
  by_cases hi : i < 24
  · rw [byt_get _ hi, byt_get _ hi, byt_size]
    by_cases e : p = i
    · subst e; simp [hi]
    · simp [e, show ¬ i = p from fun h => e h.symm]
  · have h1 : (byt f)[i]? = none := by simp [byt]; omega
    have h2 : (byt fun q => if q = p then v else f q)[i]? = none := by simp [byt]; omega
    rw [h1, h2, byt_size]
    split
    · rw [if_neg (by omega)]
    · rfl
theorem byt_one (f : Nat → Nat) : (byt f).all (·.oneCell') = true := by
  unfold byt
  exact all_oneCell_toArray fun v hv => by
    obtain ⟨p, _, rfl⟩ := List.mem_map.1 hv
    rfl
theorem byt_inj {f g : Nat → Nat} (h : byt f = byt g) : ∀ p, p < 24 → f p = g p := by
  intro p hp
  have := byt_get f hp
  rw [h, byt_get g hp] at this
  simp only [Option.some.injEq, Value.int.injEq, true_and] at this
  omega
theorem byt_zero : #[Value.int .u8 0, .int .u8 0, .int .u8 0, .int .u8 0, .int .u8 0, .int .u8 0, .int .u8 0, .int .u8 0, .int .u8 0, .int .u8 0, .int .u8 0, .int .u8 0, .int .u8 0, .int .u8 0, .int .u8 0, .int .u8 0, .int .u8 0, .int .u8 0, .int .u8 0, .int .u8 0, .int .u8 0, .int .u8 0, .int .u8 0, .int .u8 0] = byt (fun _ => 0) := rfl
theorem u117 : Try.prog.underlying 117 = some (.array 24 5) := by kernel_rfl
theorem i117 : (Try.prog.info? 117).map (·.size) = some 24 := by kernel_rfl

/-- Block B holds just these cells. -/
def Blk (t : TypeId) (w : World) (B : Nat) (cs : Array Value) : Prop := w.heap[B]? = some (.cells cs t (0, 0))
theorem Blk.lt {t : TypeId} {w : World} {B : Nat} {cs : Array Value} (h : Blk t w B cs) : B < w.heap.size := lt_of_block h
theorem Blk.cell {t : TypeId} {w : World} {B : Nat} {cs : Array Value} (h : Blk t w B cs) (i : Nat) : w.cell? ⟨B, i, none⟩ = cs[i]? := by
  unfold Blk at h; simp [World.cell?, h]
theorem Blk.fr {t : TypeId} {w : World} {B : Nat} {cs : Array Value} (h : Blk t w B cs) (i : Nat) : w.frozen? ⟨B, i, none⟩ = false := by
  unfold Blk at h; simp [World.frozen?, h]
theorem Blk.below {t : TypeId} {w w' : World} {B : Nat} {cs : Array Value} (h : Blk t w B cs) (hb : Below w.heap.size w w') : Blk t w' B cs := (hb.block B h.lt).trans h
theorem Blk.new (t : TypeId) (w : World) (cs : Array Value) : Blk t (w.alloc (.cells cs t)) w.heap.size cs := heap_alloc_new w _
theorem Blk.alloc {t : TypeId} {w : World} {B : Nat} {cs : Array Value} (h : Blk t w B cs) (o : Obj) : Blk t (w.alloc o) B cs := (Below.heap_alloc w o B h.lt).trans h
theorem Blk.drewN {t : TypeId} {w : World} {B : Nat} {cs : Array Value} (h : Blk t w B cs) (n : Nat) : Blk t (w.drewN n) B cs := h
theorem Blk.set {t : TypeId} {w : World} {B : Nat} {cs : Array Value} (h : Blk t w B cs) (i : Nat) (u : Value) : Blk t (w.setCell ⟨B, i, none⟩ u) B (cs.setIfInBounds i u) := by
  unfold Blk at *
  simp only [World.setCell, Array.getElem?_modify, h]
  simp
theorem Blk.other {t : TypeId} {w : World} {B C : Nat} {cs : Array Value} (h : Blk t w B cs) (hB : B ≠ C) (i : Nat) (u : Value) : Blk t (w.setCell ⟨C, i, none⟩ u) B cs := (Below.heap_setCell _ _ _ _ hB).trans h
theorem Blk.row {t : TypeId} {w : World} {B : Nat} {cs : Array Value} (h : Blk t w B cs) (c : Array Value) : Blk t (w.setRow B c) B c := by
  unfold Blk at *
  simp only [World.setRow, Array.getElem?_modify, h]
  simp
theorem Blk.orow {t : TypeId} {w : World} {B C : Nat} {cs : Array Value} (h : Blk t w B cs) (hB : B ≠ C) (c : Array Value) : Blk t (w.setRow C c) B cs := by
  unfold Blk at *
  simp only [World.setRow, Array.getElem?_modify, if_neg (Ne.symm hB)]
  exact h
theorem below_row {w w' : World} {B : Nat} (h : Below B w w') {C : Nat} (hC : B ≤ C) (c : Array Value) : Below B w (w'.setRow C c) :=
  ⟨h.os, h.tape, h.output, by simpa [World.setRow] using h.size, fun k hk => by
    rw [← h.block k hk]
    simp only [World.setRow, Array.getElem?_modify, if_neg (show ¬ C = k by omega)]⟩
theorem below_cell {w w' : World} {B : Nat} (h : Below B w w') {a : Addr} (ha : B ≤ a.block) (u : Value) : Below B w (w'.setCell a u) :=
  ⟨h.os, h.tape, h.output, by simpa [World.setCell] using h.size, fun k hk => by
    rw [Below.heap_setCell _ _ _ _ (show k ≠ a.block by omega)]; exact h.block k hk⟩

theorem ix24_0 (f : Nat → Nat) (w : World) : (Instr.index 117 (.agg (byt f)) (.int .i64 0)).run Try.prog w = .ok (.int .u8 (f 0 : Nat)) w := by kernel_rfl
theorem ix24_1 (f : Nat → Nat) (w : World) : (Instr.index 117 (.agg (byt f)) (.int .i64 1)).run Try.prog w = .ok (.int .u8 (f 1 : Nat)) w := by kernel_rfl
theorem ix24_2 (f : Nat → Nat) (w : World) : (Instr.index 117 (.agg (byt f)) (.int .i64 2)).run Try.prog w = .ok (.int .u8 (f 2 : Nat)) w := by kernel_rfl
theorem ix24_3 (f : Nat → Nat) (w : World) : (Instr.index 117 (.agg (byt f)) (.int .i64 3)).run Try.prog w = .ok (.int .u8 (f 3 : Nat)) w := by kernel_rfl
theorem ix24_4 (f : Nat → Nat) (w : World) : (Instr.index 117 (.agg (byt f)) (.int .i64 4)).run Try.prog w = .ok (.int .u8 (f 4 : Nat)) w := by kernel_rfl
theorem ix24_5 (f : Nat → Nat) (w : World) : (Instr.index 117 (.agg (byt f)) (.int .i64 5)).run Try.prog w = .ok (.int .u8 (f 5 : Nat)) w := by kernel_rfl
theorem ix24_6 (f : Nat → Nat) (w : World) : (Instr.index 117 (.agg (byt f)) (.int .i64 6)).run Try.prog w = .ok (.int .u8 (f 6 : Nat)) w := by kernel_rfl
theorem ix24_7 (f : Nat → Nat) (w : World) : (Instr.index 117 (.agg (byt f)) (.int .i64 7)).run Try.prog w = .ok (.int .u8 (f 7 : Nat)) w := by kernel_rfl
theorem ix24_8 (f : Nat → Nat) (w : World) : (Instr.index 117 (.agg (byt f)) (.int .i64 8)).run Try.prog w = .ok (.int .u8 (f 8 : Nat)) w := by kernel_rfl
theorem ix24_9 (f : Nat → Nat) (w : World) : (Instr.index 117 (.agg (byt f)) (.int .i64 9)).run Try.prog w = .ok (.int .u8 (f 9 : Nat)) w := by kernel_rfl
theorem ix24_10 (f : Nat → Nat) (w : World) : (Instr.index 117 (.agg (byt f)) (.int .i64 10)).run Try.prog w = .ok (.int .u8 (f 10 : Nat)) w := by kernel_rfl
theorem ix24_11 (f : Nat → Nat) (w : World) : (Instr.index 117 (.agg (byt f)) (.int .i64 11)).run Try.prog w = .ok (.int .u8 (f 11 : Nat)) w := by kernel_rfl
theorem ix24_12 (f : Nat → Nat) (w : World) : (Instr.index 117 (.agg (byt f)) (.int .i64 12)).run Try.prog w = .ok (.int .u8 (f 12 : Nat)) w := by kernel_rfl
theorem ix24_13 (f : Nat → Nat) (w : World) : (Instr.index 117 (.agg (byt f)) (.int .i64 13)).run Try.prog w = .ok (.int .u8 (f 13 : Nat)) w := by kernel_rfl
theorem ix24_14 (f : Nat → Nat) (w : World) : (Instr.index 117 (.agg (byt f)) (.int .i64 14)).run Try.prog w = .ok (.int .u8 (f 14 : Nat)) w := by kernel_rfl
theorem ix24_15 (f : Nat → Nat) (w : World) : (Instr.index 117 (.agg (byt f)) (.int .i64 15)).run Try.prog w = .ok (.int .u8 (f 15 : Nat)) w := by kernel_rfl
theorem ix24_16 (f : Nat → Nat) (w : World) : (Instr.index 117 (.agg (byt f)) (.int .i64 16)).run Try.prog w = .ok (.int .u8 (f 16 : Nat)) w := by kernel_rfl
theorem ix24_17 (f : Nat → Nat) (w : World) : (Instr.index 117 (.agg (byt f)) (.int .i64 17)).run Try.prog w = .ok (.int .u8 (f 17 : Nat)) w := by kernel_rfl
theorem ix24_18 (f : Nat → Nat) (w : World) : (Instr.index 117 (.agg (byt f)) (.int .i64 18)).run Try.prog w = .ok (.int .u8 (f 18 : Nat)) w := by kernel_rfl
theorem ix24_19 (f : Nat → Nat) (w : World) : (Instr.index 117 (.agg (byt f)) (.int .i64 19)).run Try.prog w = .ok (.int .u8 (f 19 : Nat)) w := by kernel_rfl
theorem ix24_20 (f : Nat → Nat) (w : World) : (Instr.index 117 (.agg (byt f)) (.int .i64 20)).run Try.prog w = .ok (.int .u8 (f 20 : Nat)) w := by kernel_rfl
theorem ix24_21 (f : Nat → Nat) (w : World) : (Instr.index 117 (.agg (byt f)) (.int .i64 21)).run Try.prog w = .ok (.int .u8 (f 21 : Nat)) w := by kernel_rfl
theorem ix24_22 (f : Nat → Nat) (w : World) : (Instr.index 117 (.agg (byt f)) (.int .i64 22)).run Try.prog w = .ok (.int .u8 (f 22 : Nat)) w := by kernel_rfl
theorem ix24_23 (f : Nat → Nat) (w : World) : (Instr.index 117 (.agg (byt f)) (.int .i64 23)).run Try.prog w = .ok (.int .u8 (f 23 : Nat)) w := by kernel_rfl
/-- What an array of bytes has at a place, as a value. -/
theorem index24 (f : Nat → Nat) (k : Nat) (hk : k < 24) (w : World) : (Instr.index 117 (.agg (byt f)) (.int .i64 k)).run Try.prog w = .ok (.int .u8 (f k : Nat)) w := by
  match k, hk with
  | 0, _ => exact ix24_0 f w
  | 1, _ => exact ix24_1 f w
  | 2, _ => exact ix24_2 f w
  | 3, _ => exact ix24_3 f w
  | 4, _ => exact ix24_4 f w
  | 5, _ => exact ix24_5 f w
  | 6, _ => exact ix24_6 f w
  | 7, _ => exact ix24_7 f w
  | 8, _ => exact ix24_8 f w
  | 9, _ => exact ix24_9 f w
  | 10, _ => exact ix24_10 f w
  | 11, _ => exact ix24_11 f w
  | 12, _ => exact ix24_12 f w
  | 13, _ => exact ix24_13 f w
  | 14, _ => exact ix24_14 f w
  | 15, _ => exact ix24_15 f w
  | 16, _ => exact ix24_16 f w
  | 17, _ => exact ix24_17 f w
  | 18, _ => exact ix24_18 f w
  | 19, _ => exact ix24_19 f w
  | 20, _ => exact ix24_20 f w
  | 21, _ => exact ix24_21 f w
  | 22, _ => exact ix24_22 f w
  | 23, _ => exact ix24_23 f w
  | n + 24, h => exact absurd h (by omega)

theorem blk_at {w : World} {t : TypeId} {cs : Array Value} {B : Nat} (h : w.heap.size = B) : Blk t (w.alloc (.cells cs t)) B cs := h ▸ Blk.new t w cs
theorem Blk.byt {w : World} {B : Nat} {f : Nat → Nat} (h : Blk 117 w B (byt f)) {k : Nat} (hk : k < 24) : w.cell? ⟨B, k, none⟩ = some (.int .u8 (f k : Nat)) ∧ w.frozen? ⟨B, k, none⟩ = false :=
  ⟨(h.cell k).trans (byt_get f hk), h.fr k⟩
theorem s2 (w : World) (o p : Obj) : ((w.alloc o).alloc p).heap.size = w.heap.size + 2 := by simp

set_option maxHeartbeats 1000000 in
theorem still_any (w : World) : Calls Try.prog 111 #[] w fun e w' => e = .returned (.agg (byt fun p => p)) ∧ Below w.heap.size w w' := by
  go_enter Try.func111, Try.ntmps111
  go_wp2_with fail
  go_loopw [3] (fun i wr => ∃ k : Nat, k ≤ 24 ∧ i = .int .i64 k ∧ Blk 117 wr (w.heap.size + 1) (byt fun p => if p < k then p else 0) ∧ Blk 117 wr w.heap.size (byt fun _ => 0) ∧ Below w.heap.size w wr) (fun i _ => 24 - (intOf i).toNat)
  case atStart => exact ⟨0, by omega, rfl, blk_at (by simp), (Blk.new _ _ _).alloc _, ((Below.refl _ _).alloc (Nat.le_refl _) _).alloc (by simp) _⟩
  case round =>
    obtain ⟨k, hk, rfl, hX, hR, hb⟩ := hrel
    have HX := Lib.hid hX
    have HR := Lib.hid hR
    have HB := Lib.hid hb
    clear hX hR hb
    by_cases hlt : k < 24
    · have hm : ((k:Int) % 256) = k := by omega
      have hfr := (HX.out.byt hlt).2
      have hcell := (HX.out.byt hlt).1
      go_wp2_with fail
      go_roundw
      case rel =>
        refine ⟨k + 1, by omega, by go_num, ?_, HR.out.other (by simp) _ _, below_cell HB.out (by simp) _⟩
        have h1 := HX.out.set k (.int .u8 (k : Nat))
        rw [byt_set] at h1
        rw [byt_congr (g := fun q => if q = k then k else if q < k then q else 0) (fun p hp => by split <;> split <;> (try split) <;> omega)]
        exact h1
      case measure => simp [intOf]; omega
    · obtain rfl : k = 24 := by omega
      go_wp2_with (first | (refine wpList_load_row rfl 117 _ rfl _ rfl 117 _ (0, 0) _ HX.out u117 rfl (by rw [byt_size]; exact i117) ?_) | (refine wpList_store_row rfl 117 _ _ rfl _ _ rfl rfl 117 _ HR.out (by rw [byt_size]; exact i117) (by rw [byt_size, byt_size]) (byt_one _) ?_))
      refine bodyPost_ret (results_cell_row rfl _ _ w.heap.size 117 _ (0, 0) _ rfl (HR.out.row _) u117 rfl (by rw [byt_size]; exact i117)) rfl ⟨?_, below_row HB.out (Nat.le_refl _) _⟩
      rw [byt_congr (g := fun p => p) (fun p hp => if_pos hp)]

set_option maxHeartbeats 1000000 in
theorem before_any (f h : Nat → Nat) (hh : ∀ p, p < 24 → h p < 24) (hf : ∀ p, p < 24 → f p < 24) (w : World) :
    Calls Try.prog 112 #[.agg (byt f), .agg (byt h)] w fun e w' => e = .returned (.agg (byt fun p => f (h p))) ∧ Below w.heap.size w w' := by
  have HH := Lib.hid hh
  have HF := Lib.hid hf
  clear hh hf
  go_enter Try.func112, Try.ntmps112
  go_wp2_with (refine wpList_load_row rfl 117 _ rfl (w.heap.size + 1) rfl 117 (byt h) (0, 0) _ ((((blk_at (by simp)).alloc _).alloc _)) u117 rfl (by rw [byt_size]; exact i117) ?_)
  go_loopw [9] (fun i wr => ∃ k : Nat, k ≤ 24 ∧ i = .int .i64 k ∧ Blk 117 wr (w.heap.size + 3) (byt fun p => if p < k then f (h p) else 0) ∧ Blk 117 wr (w.heap.size + 2) (byt fun _ => 0) ∧ Blk 117 wr w.heap.size (byt f) ∧ Below w.heap.size w wr) (fun i _ => 24 - (intOf i).toNat)
  case atStart => exact ⟨0, by omega, rfl, blk_at (by simp), (blk_at (by simp)).alloc _, (((Blk.new _ _ _).alloc _).alloc _).alloc _, ((((Below.refl _ _).alloc (Nat.le_refl _) _).alloc (by simp) _).alloc (by simp; omega) _).alloc (by simp; omega) _⟩
  case round =>
    obtain ⟨k, hk, rfl, hX, hR, hS, hb⟩ := hrel
    have HX := Lib.hid hX
    have HR := Lib.hid hR
    have HS := Lib.hid hS
    have HB := Lib.hid hb
    clear hX hR hS hb
    by_cases hlt : k < 24
    · have hix := fun w => index24 h k hlt w
      have hq := HH.out k hlt
      have hr := HF.out _ hq
      have HE : Hid (∀ p, p < 24 → (if p < k + 1 then f (h p) else 0) = (if p = k then f (h k) else if p < k then f (h p) else 0)) := Lib.hid fun p hp => by
        by_cases e : p = k
        · subst e; simp
        · rw [if_neg e]; by_cases e2 : p < k
          · rw [if_pos e2, if_pos (by omega)]
          · rw [if_neg e2, if_neg (by omega)]
      have hfr : wr.frozen? ⟨w.heap.size + 1 + 1 + 1, k, none⟩ = false := (HX.out.byt hlt).2
      have hfc : wr.cell? ⟨w.heap.size + 1 + 1 + 1, k, none⟩ = some _ := (HX.out.byt hlt).1
      have hcell := (HS.out.byt hq).1
      generalize (if k < k then f (h k) else 0) = z0 at *
      generalize h k = q at *
      generalize f q = r at *
      go_wp2_with fail
      go_roundw
      case rel =>
        refine ⟨k + 1, by omega, by go_num, ?_, HR.out.other (by omega) _ _, HS.out.other (by omega) _ _, below_cell HB.out (by show w.heap.size ≤ w.heap.size + 1 + 1 + 1; omega) _⟩
        have h1 := HX.out.set k (.int .u8 (r : Nat))
        rw [byt_set] at h1
        rw [byt_congr HE.out]
        exact h1
      case measure => simp [intOf]; omega
    · obtain rfl : k = 24 := by omega
      go_wp2_with (first | (refine wpList_load_row rfl 117 _ rfl _ rfl 117 _ (0, 0) _ HX.out u117 rfl (by rw [byt_size]; exact i117) ?_) | (refine wpList_store_row rfl 117 _ _ rfl _ _ rfl rfl 117 _ HR.out (by rw [byt_size]; exact i117) (by rw [byt_size, byt_size]) (byt_one _) ?_))
      refine bodyPost_ret (results_cell_row rfl _ _ (w.heap.size + 2) 117 _ (0, 0) _ rfl (HR.out.row _) u117 rfl (by rw [byt_size]; exact i117)) rfl ⟨?_, below_row HB.out (by omega) _⟩
      rw [byt_congr (g := fun p => f (h p)) (fun p hp => if_pos hp)]
end Go.Proofs.Ytlnbodpdgebflaa
