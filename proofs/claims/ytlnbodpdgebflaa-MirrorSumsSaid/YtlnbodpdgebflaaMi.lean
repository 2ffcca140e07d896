/- mirrors: swap, mirrorOf -/
import Derived.Test.YtlnbodpdgebflaaTu
import Derived.Deep.RegionWith
namespace Go.Proofs.Ytlnbodpdgebflaa
open Go.RowKit

theorem below_drew {B : Nat} {a w : World} (h : Below B a w) : Below B a w.drew := ⟨h.os, h.tape, h.output, h.size, h.block⟩

theorem end_none {fn : Func} (h : fn.results = #[]) {R : Ending → World → Prop} {a : Act} {w : World} (hd : a.defers = []) (hR : R (.returned (.tuple #[])) w) : bodyPost Try.prog fn R .normal a w := ⟨hd, _, results_none h _ _ _, hR⟩

def swp (f : Nat → Nat) (p q : Nat) (i : Nat) : Nat := if i = q then f p else if i = p then f q else f i

set_option maxHeartbeats 1000000 in
theorem swap_any (f : Nat → Nat) (B p q : Nat) (w : World) (h : Blk 117 w B (byt f)) (hp : p < 24) (hq : q < 24) (hne : p ≠ q) (hf : f p < 24 ∧ f q < 24) :
    Calls Try.prog 116 #[.pointer (some ⟨B, 0, none⟩), .int .i64 p, .int .i64 q] w fun e w' => (∃ v, e = .returned v) ∧ Blk 117 w' B (byt (swp f p q)) ∧ Below B w w' := by
  have H := Lib.hid h
  have cp := (h.byt hp).1
  have fp := (h.byt hp).2
  have cq := (h.byt hq).1
  have fq := (h.byt hq).2
  have HE := Lib.hid (byt_congr (f := fun i => if i = q then f p else if i = p then f q else f i) (g := swp f p q) (fun i _ => rfl))
  have HE2 := Lib.hid (byt_congr (f := fun i => if i = p then f q else if i = q then f p else f i) (g := swp f p q) (fun i _ => by unfold swp; by_cases e1 : i = q <;> by_cases e2 : i = p <;> simp_all))
  have hfp := hf.1
  have hfq := hf.2
  clear h hf
  have HS1 : Hid (Blk 117 ((w.setCell ⟨B, p, none⟩ (.int .u8 (f q : Nat))).setCell ⟨B, q, none⟩ (.int .u8 (f p : Nat))).drew B (byt (swp f p q)) ∧ Below B w ((w.setCell ⟨B, p, none⟩ (.int .u8 (f q : Nat))).setCell ⟨B, q, none⟩ (.int .u8 (f p : Nat))).drew) := Lib.hid (by
    have := (H.out.set p (.int .u8 (f q : Nat))).set q (.int .u8 (f p : Nat))
    rw [byt_set, byt_set] at this
    rw [← HE.out]
    exact ⟨this, below_drew (below_cell (below_cell (Below.refl B w) (a := ⟨B, p, none⟩) (Nat.le_refl B) _) (a := ⟨B, q, none⟩) (Nat.le_refl B) _)⟩)
  have HS2 : Hid (Blk 117 ((w.setCell ⟨B, q, none⟩ (.int .u8 (f p : Nat))).setCell ⟨B, p, none⟩ (.int .u8 (f q : Nat))).drew B (byt (swp f p q)) ∧ Below B w ((w.setCell ⟨B, q, none⟩ (.int .u8 (f p : Nat))).setCell ⟨B, p, none⟩ (.int .u8 (f q : Nat))).drew) := Lib.hid (by
    have := (H.out.set q (.int .u8 (f p : Nat))).set p (.int .u8 (f q : Nat))
    rw [byt_set, byt_set] at this
    rw [← HE2.out]
    exact ⟨this, below_drew (below_cell (below_cell (Below.refl B w) (a := ⟨B, q, none⟩) (Nat.le_refl B) _) (a := ⟨B, p, none⟩) (Nat.le_refl B) _)⟩)
  generalize f p = a at *
  generalize f q = b at *
  have hpq : (p:Int) ≠ q := by omega
  go_enter Try.func116, Try.ntmps116
  go_wp2_with fail
  go_region_with (fail)
  all_goals (go_wp2_with fail)
  all_goals (refine end_none rfl rfl ?_)
  all_goals (with_reducible first
    | exact ⟨⟨_, rfl⟩, HS1.out⟩
    | exact ⟨⟨_, rfl⟩, HS2.out⟩)

def mirOk : Bool := (List.range 17).all fun g => (List.range (kM g)).all fun s => (List.range 24).all fun p => tn g (rt g 0 s) p ==
  (if kd g = 65 then swp (fun i => i) s (s + 1) p else if kd g = 66 then (if s + 1 < nm g then swp (swp (fun i => i) s (s + 1)) (2 * nm g - 1 - s) (2 * nm g - 1 - s - 1) p else swp (fun i => i) s (s + 1) p)
   else if p < 2 * nm g then (2 * nm g - 1 + 2 * s - p) % (2 * nm g) else p)
theorem mirOk_ok : mirOk = true := by decide +kernel
theorem mir_eq {g s p : Nat} (hg : g < 17) (hs : s < kM g) (hp : p < 24) : tn g (rt g 0 s) p =
    (if kd g = 65 then swp (fun i => i) s (s + 1) p else if kd g = 66 then (if s + 1 < nm g then swp (swp (fun i => i) s (s + 1)) (2 * nm g - 1 - s) (2 * nm g - 1 - s - 1) p else swp (fun i => i) s (s + 1) p)
     else if p < 2 * nm g then (2 * nm g - 1 + 2 * s - p) % (2 * nm g) else p) := by
  have h := mirOk_ok
  unfold mirOk at h
  have h1 := List.all_eq_true.1 (List.all_eq_true.1 (List.all_eq_true.1 h g (List.mem_range.2 hg)) s (List.mem_range.2 hs)) p (List.mem_range.2 hp)
  exact beq_iff_eq.1 h1
theorem kinds {g : Nat} (hg : g < 17) : (kd g = 65 ∧ nm g ≤ 4 ∧ kM g = nm g ∧ 1 ≤ nm g) ∨ (kd g = 66 ∧ nm g ≤ 3 ∧ kM g = nm g ∧ 2 ≤ nm g) ∨ (kd g = 73 ∧ nm g ≤ 12 ∧ kM g = 2 ∧ 2 ≤ nm g) := by
  have : ∀ g < 17, (kd g = 65 ∧ nm g ≤ 4 ∧ kM g = nm g ∧ 1 ≤ nm g) ∨ (kd g = 66 ∧ nm g ≤ 3 ∧ kM g = nm g ∧ 2 ≤ nm g) ∨ (kd g = 73 ∧ nm g ≤ 12 ∧ kM g = 2 ∧ 2 ≤ nm g) := by decide +kernel
  exact this g hg
/-- A group as the program's value. -/
abbrev gV (k n : Int) : Value := .agg #[.int .u8 k, .int .i64 n]


/-- A whole array of bytes is stored: the world behind it has no form. -/
theorem wpl_store24 {ops : Array Oper} {rest : List Oper} {o : Oper} {a : Act} {w : World} {Q : Exit → Act → World → Prop} (hgd : o.guard = none) (x y : Operand) (ho : o.op = .store 117 x y)
    (B : Nat) (f : Nat → Nat) (hx : a.eval x = .pointer (some ⟨B, 0, none⟩)) (hy : a.eval y = .agg (byt f)) (old : Array Value) (hB : Blk 117 w B old) (hs : old.size = 24)
    (h : ∀ w' : World, Hid (w' = w.setRow B (byt f)) → wpList Try.prog ops Q rest (a.put o.dst undef) w') : wpList Try.prog ops Q (o :: rest) a w :=
  wpList_store_row hgd 117 x y ho B _ hx hy 117 old hB (by rw [byt_size]; exact i117) (by rw [byt_size, hs]) (byt_one _) (h _ (Lib.hid rfl))
theorem wpl_load24 {ops : Array Oper} {rest : List Oper} {o : Oper} {a : Act} {w : World} {Q : Exit → Act → World → Prop} (hgd : o.guard = none) (x : Operand) (ho : o.op = .load 117 x)
    (B : Nat) (hx : a.eval x = .pointer (some ⟨B, 0, none⟩)) (f : Nat → Nat) (hB : Blk 117 w B (byt f))
    (h : wpList Try.prog ops Q rest (a.put o.dst (.agg (byt f))) w) : wpList Try.prog ops Q (o :: rest) a w :=
  wpList_load_row hgd 117 x ho B hx 117 _ (0, 0) _ hB u117 rfl (by rw [byt_size]; exact i117) h
theorem res24 {fn : Func} {p : Tmp} (h : fn.results = #[.cell p 117]) (tmps : Array Value) (w : World) (B : Nat) (f : Nat → Nat) (hp : tmps.getD p undef = .pointer (some ⟨B, 0, none⟩)) (hB : Blk 117 w B (byt f)) :
    (results fn tmps).run Try.prog w = .ok (.agg (byt f)) w := results_cell_row h tmps w B 117 _ (0, 0) _ hp hB u117 rfl (by rw [byt_size]; exact i117)
end Go.Proofs.Ytlnbodpdgebflaa
