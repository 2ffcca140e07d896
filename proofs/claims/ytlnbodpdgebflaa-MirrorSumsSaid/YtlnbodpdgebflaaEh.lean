/- the reference's readers: Number, Length, Back, Falls, Coset -/
import Derived.Test.YtlnbodpdgebflaaEf
import Derived.Test.YtlnbodpdgebflaaPl
namespace Go.Proofs.Ytlnbodpdgebflaa
open Go.RowKit

/-- The reference's table in a block of its own. -/
structure RB (w : World) (B g b0 c0 b1 c1 b2 c2 : Nat) : Prop where
  blk : Blk 39 w B #[.slice (some ⟨b0, 0, none⟩) (nE g) c0, .slice (some ⟨b1, 0, none⟩) (nE g) c1, .slice (some ⟨b2, 0, none⟩) (nE g) c2]
  p0 : Pts w b0 (nE g) (wd g)
  p1 : Pts w b1 (nE g) (pt g)
  p2 : Pts w b2 (nE g) (rw_ g)
theorem RB.below {w w' : World} {B g b0 c0 b1 c1 b2 c2 : Nat} (h : RB w B g b0 c0 b1 c1 b2 c2) (hb : Below w.heap.size w w') : RB w' B g b0 c0 b1 c1 b2 c2 :=
  ⟨h.blk.below hb, h.p0.below hb (Nat.le_refl _), h.p1.below hb (Nat.le_refl _), h.p2.below hb (Nat.le_refl _)⟩
theorem RB.at {w : World} {B g b0 c0 b1 c1 b2 c2 : Nat} (h : RB w B g b0 c0 b1 c1 b2 c2) : w.cell? ⟨B, 0, none⟩ = some (.slice (some ⟨b0, 0, none⟩) (nE g) c0) ∧ w.cell? ⟨B, 1, none⟩ = some (.slice (some ⟨b1, 0, none⟩) (nE g) c1) ∧ w.cell? ⟨B, 2, none⟩ = some (.slice (some ⟨b2, 0, none⟩) (nE g) c2) :=
  ⟨h.blk.cell 0, h.blk.cell 1, h.blk.cell 2⟩
/-- The table's value. -/
def rV (g b0 c0 b1 c1 b2 c2 : Nat) : Value := .agg #[.slice (some ⟨b0, 0, none⟩) (nE g) c0, .slice (some ⟨b1, 0, none⟩) (nE g) c1, .slice (some ⟨b2, 0, none⟩) (nE g) c2]
/-- What its slices lead to. -/
structure RP (w : World) (g b0 b1 b2 : Nat) : Prop where
  p0 : Pts w b0 (nE g) (wd g)
  p1 : Pts w b1 (nE g) (pt g)
  p2 : Pts w b2 (nE g) (rw_ g)
theorem RP.below {w w' : World} {g b0 b1 b2 : Nat} (h : RP w g b0 b1 b2) (hb : Below w.heap.size w w') : RP w' g b0 b1 b2 :=
  ⟨h.p0.below hb (Nat.le_refl _), h.p1.below hb (Nat.le_refl _), h.p2.below hb (Nat.le_refl _)⟩
theorem RB.rp {w : World} {B g b0 c0 b1 c1 b2 c2 : Nat} (h : RB w B g b0 c0 b1 c1 b2 c2) : RP w g b0 b1 b2 := ⟨h.p0, h.p1, h.p2⟩
theorem RP.box {w : World} {g b0 b1 b2 : Nat} (h : RP w g b0 b1 b2) (c0 c1 c2 : Nat) : RB (w.alloc (.cells #[.slice (some ⟨b0, 0, none⟩) (nE g) c0, .slice (some ⟨b1, 0, none⟩) (nE g) c1, .slice (some ⟨b2, 0, none⟩) (nE g) c2] 39)) w.heap.size g b0 c0 b1 c1 b2 c2 :=
  let k := h.below ((Below.refl _ _).alloc (Nat.le_refl _) _)
  ⟨Blk.new _ _ _, k.p0, k.p1, k.p2⟩
/-- One product. -/
theorem RP.next {w : World} {g b0 b1 b2 x s : Nat} (h : RP w g b0 b1 b2) (hx : x < nE g) (hs : s < kM g) : ∃ q o c, w.cell? ⟨b2, x, none⟩ = some (.slice (some ⟨q, o, none⟩) (kM g) c) ∧ w.cell? ⟨q, o + s, none⟩ = some (.int .i64 (rt g x s : Nat)) := by
  obtain ⟨a, c, h1, h2⟩ := h.p2 x hx
  have hl := rw_length g x
  obtain ⟨ao, cap, e, _, _, h3⟩ := Nats.open h2
  cases e
  obtain ⟨q, o, rfl, hc⟩ := h3 s (by rw [hl]; exact hs)
  rw [hl] at h1
  rw [rw_get g x s hs] at hc
  exact ⟨q, o, _, h1, hc⟩
theorem RP.row {w : World} {g b0 b1 b2 x : Nat} (h : RP w g b0 b1 b2) (hg : g < 17) (hx : x < nE g) : ∃ q o c, w.cell? ⟨b2, x, none⟩ = some (.slice (some ⟨q, o, none⟩) (kM g) c) ∧ ∀ s, s < kM g → w.cell? ⟨q, o + s, none⟩ = some (.int .i64 (rt g x s : Nat)) := by
  obtain ⟨q, o, c, h1, _⟩ := h.next hx (tg hg).2.2.1
  refine ⟨q, o, c, h1, fun s hs => ?_⟩
  obtain ⟨q', o', c', h3, h4⟩ := h.next hx hs
  rw [h1] at h3
  cases h3
  exact h4

set_option maxHeartbeats 1000000 in
theorem Number_any (g b0 c0 b1 c1 b2 c2 x : Nat) (hg : g < 17) (v : Value) (l : List Nat) (w : World) (h : RP w g b0 b1 b2) (hx : x < nE g) (hv : Nats w v l) (hl : ∀ s ∈ l, s < kM g) :
    Calls Try.prog 27 #[rV g b0 c0 b1 c1 b2 c2, .int .i64 x, v] w fun e w' => e = .returned (.int .i64 (fol g x l : Nat)) ∧ Below w.heap.size w w' := by
  obtain ⟨ao, cap, rfl, h1, h2, hxx⟩ := hv.open
  have HR := Lib.hid (h.box c0 c1 c2)
  have HX := Lib.hid hxx
  have HL := Lib.hid hl
  have hk4 := (tg hg).2.2.2.1
  have hE := (tE hg).2
  clear h hxx hv hl
  unfold rV
  go_enter Try.func27, Try.ntmps27
  go_wp2_with fail
  go_loopw [11, 1] (fun i y wr => ∃ k : Nat, k ≤ l.length ∧ i = .int .i64 k ∧ y = .int .i64 (fol g x (l.take k) : Nat) ∧ wr = w.alloc (.cells #[.slice (some ⟨b0, 0, none⟩) (nE g) c0, .slice (some ⟨b1, 0, none⟩) (nE g) c1, .slice (some ⟨b2, 0, none⟩) (nE g) c2] 39)) (fun i _ _ => l.length - (intOf i).toNat)
  case atStart => exact ⟨0, Nat.zero_le _, rfl, rfl, rfl⟩
  case round =>
    obtain ⟨k, hk, rfl, rfl, hwr⟩ := hrel
    have HWr := Lib.hid hwr
    have HRr : Hid (RB wr w.heap.size g b0 c0 b1 c1 b2 c2) := Lib.hid (by rw [hwr]; exact HR.out)
    by_cases hlt : k < l.length
    · obtain ⟨b, o, rfl, hck0⟩ := HX.out k hlt
      have hck : wr.cell? ⟨b, o + k, none⟩ = some (.int .i64 (l.getD k 0 : Nat)) := by rw [hwr]; exact alloc_cell' _ hck0
      have hy := fol_lt hg (l.take k) x hx fun s hs => HL.out s (List.mem_of_mem_take hs)
      have hsl := HL.out _ (natD_mem hlt)
      have HS : Hid (fol g x (l.take (k + 1)) = rt g (fol g x (l.take k)) (l.getD k 0)) := Lib.hid (by rw [natT_snoc' _ _ hlt, fol_snoc])
      obtain ⟨q, qo, qc, r1, r4⟩ := HRr.out.rp.next hy hsl
      have c2' := HRr.out.at.2.2
      clear hwr hck0
      generalize fol g x (l.take k) = y at *
      generalize l.getD k 0 = s at *
      generalize rt g y s = r at *
      generalize nE g = N at *
      generalize kM g = K at *
      go_wp2_with fail
      go_roundw
      case rel => exact ⟨k + 1, by omega, by go_num, by rw [HS.out], HWr.out⟩
      case measure => simp [intOf]; omega
    · obtain rfl : k = l.length := by omega
      rw [List.take_length]
      clear hwr
      go_wp2_with fail
      go_ret
      exact ⟨rfl, by rw [HWr.out]; exact a1 _ _⟩

set_option maxHeartbeats 400000 in
theorem Len_any (g b0 c0 b1 c1 b2 c2 x : Nat) (hg : g < 17) (w : World) (h : RP w g b0 b1 b2) (hx : x < nE g) :
    Calls Try.prog 29 #[rV g b0 c0 b1 c1 b2 c2, .int .i64 x] w fun e w' => e = .returned (.int .i64 (ln g x : Nat)) ∧ Below w.heap.size w w' := by
  obtain ⟨a, c, h1, _⟩ := h.p0 x hx
  have h1' : ∀ o : Obj, (w.alloc o).cell? ⟨b0, x, none⟩ = some (.slice a (ln g x) c) := fun o => alloc_cell' o h1
  have hE := (tE hg).2
  have HB : Hid (∀ o : Obj, Below w.heap.size w (w.alloc o)) := Lib.hid (fun o => a1 _ _)
  clear h h1
  unfold rV
  generalize ln g x = n at *
  generalize nE g = N at *
  go_enter Try.func29, Try.ntmps29
  go_wp2_with fail
  go_ret
  exact ⟨rfl, HB.out _⟩

/-- Back reads the normal word from behind. -/
theorem fol_last (g x i : Nat) (h : i < (wd g x).length) : fol g (fol g 0 (((wd g x).drop (i + 1)).reverse)) (([(wd g x).getD i 0])) = fol g 0 (((wd g x).drop i).reverse) := by
  rw [List.drop_eq_getElem_cons h, List.reverse_cons, fol_app]
  simp [h]

set_option maxRecDepth 20000 in
set_option maxHeartbeats 1000000 in
theorem RBack_any (g b0 c0 b1 c1 b2 c2 x : Nat) (hg : g < 17) (w : World) (h : RP w g b0 b1 b2) (hx : x < nE g) :
    Calls Try.prog 34 #[rV g b0 c0 b1 c1 b2 c2, .int .i64 x] w fun e w' => e = .returned (.int .i64 (bk g x : Nat)) ∧ Below w.heap.size w w' := by
  have HR := Lib.hid (h.box c0 c1 c2)
  have HLn := Lib.hid (fun W hW => Len_any g b0 c0 b1 c1 b2 c2 x hg W hW hx)
  have hl12 := (tx hg hx).2.1
  have hlw : (wd g x).length = ln g x := rfl
  have hE := (tE hg).2
  have HLt := Lib.hid (Let.wd hg hx)
  clear h
  unfold rV at HLn ⊢
  go_enter Try.func34, Try.ntmps34
  go_wp2_with fail
  refine (HLn.out _ HR.out.rp).mono ?_
  rintro e w1 ⟨rfl, hb1⟩
  have HR1 := Lib.hid (HR.out.below hb1)
  have HB1 : Hid (Below w.heap.size w w1) := Lib.hid ((a1 w _).trans (hb1.mono (by simp)))
  clear hb1 HR HLn
  go_wp2_with fail
  go_loopw [6, 5] (fun i y wr => ∃ k : Nat, k ≤ ln g x ∧ i = .int .i64 ((k : Int) - 1) ∧ y = .int .i64 (fol g 0 (((wd g x).drop k).reverse) : Nat) ∧ RB wr w.heap.size g b0 c0 b1 c1 b2 c2 ∧ Below w.heap.size w wr) (fun i _ _ => (intOf i + 1).toNat)
  case atStart => exact ⟨ln g x, Nat.le_refl _, rfl, by rw [← hlw, List.drop_length]; rfl, HR1.out, HB1.out⟩
  case round =>
    clear HR1 HB1
    obtain ⟨k, hk, rfl, rfl, hR, hb⟩ := hrel
    have HR := Lib.hid hR
    have HB := Lib.hid hb
    clear hR hb
    cases k with
    | zero =>
      have HE : Hid (fol g 0 (((wd g x).drop 0).reverse) = bk g x) := Lib.hid rfl
      rw [HE.out]
      clear HE
      go_wp2_with fail
      go_ret
      exact ⟨rfl, HB.out⟩
    | succ k =>
      have hkl : k < (wd g x).length := by omega
      have HS := Lib.hid (fol_last g x k hkl)
      have hy := fol_lt hg (((wd g x).drop (k + 1)).reverse) 0 (by have := (tE hg).1; exact this) fun s hs => HLt.out s (List.mem_of_mem_drop (List.mem_reverse.1 hs))
      have hsl := HLt.out _ (natD_mem hkl)
      obtain ⟨q, qo, qc, r1, r4⟩ := HR.out.rp.next hy hsl
      obtain ⟨wa, wc, q1, q2⟩ := HR.out.p0 x hx
      obtain ⟨_, _, e', hcap, _, q3⟩ := Nats.open q2
      cases e'
      obtain ⟨wq, wo, rfl, q4⟩ := q3 k hkl
      rw [hlw] at q1 hcap
      have t0 := HR.out.at.1
      have t2 := HR.out.at.2.2
      have hS1 : ∀ z s : Nat, fol g z [s] = rt g z s := fun _ _ => rfl
      rw [hS1] at HS
      have hlk : k < ln g x := hkl
      have hki : ((k + 1 : Nat) : Int) - 1 = (k : Nat) := by omega
      rw [hki]
      clear q2 q3 hkl hki hlw HLt
      generalize fol g 0 (((wd g x).drop (k + 1)).reverse) = y at *
      generalize hy2 : fol g 0 (((wd g x).drop k).reverse) = y2 at *
      have HY2 := Lib.hid hy2
      clear hy2
      generalize (wd g x).getD k 0 = s at *
      rw [HS.out] at r4
      generalize ln g x = n at *
      generalize nE g = N at *
      generalize kM g = K at *
      go_wp2_with fail
      go_region_held3 (fun W => W.cell? ⟨w.heap.size, 0, none⟩ = some (.slice (some ⟨b0, 0, none⟩) N c0) ∧ W.cell? ⟨w.heap.size, 2, none⟩ = some (.slice (some ⟨b2, 0, none⟩) N c2) ∧ W.cell? ⟨b2, y, none⟩ = some (.slice (some ⟨q, qo, none⟩) K qc) ∧ W.cell? ⟨b0, x, none⟩ = some (.slice (some ⟨wq, wo, none⟩) n wc) ∧ W.cell? ⟨wq, wo + k, none⟩ = some (.int .i64 (s : Nat)) ∧ W.cell? ⟨q, qo + s, none⟩ = some (.int .i64 (y2 : Nat))) (go_keep) (fail)
      all_goals (go_wp2_with fail)
      go_roundw
      case rel => exact ⟨k, by omega, by go_num, by rw [HY2.out], HR.out.below (below_drew (Below.refl _ _)), below_drew HB.out⟩
      case measure => simp [intOf]

end Go.Proofs.Ytlnbodpdgebflaa
