/- planes: number -/
import Derived.Test.YtllokfkagneneaaF
namespace Go.Proofs.Ytllokfkagneneaa
open Go.RowKit

def numS (p : Nat) (a b c : Int) : Int :=
  idxS (ptsL p) (facS p [a, b, c] * (a % p) % p, facS p [a, b, c] * (b % p) % p, facS p [a, b, c] * (c % p) % p)

theorem invS_bd (p : Nat) (r : Int) : 0 ≤ invS p r ∧ invS p r ≤ p := by
  unfold invS
  cases h : (List.range p).find? (fun (k : Nat) => ((k : Int) * r) % p == 1) with
  | none => simp
  | some k =>
    have := List.mem_of_find?_eq_some h
    simp at this
    simp; omega
theorem facS_bd (p : Nat) (xs : List Int) : 0 ≤ facS p xs ∧ facS p xs ≤ p := by
  unfold facS
  cases xs.find? (fun (x : Int) => x % (p:Int) != 0) with
  | none => simp
  | some k => exact invS_bd p _

theorem IntBlk.ints {w : World} {g : Nat} {t : TypeId} {ys : List Int} (h : IntBlk w g t ys) (hl : ys.length ≤ 1000) (hb : ∀ x ∈ ys, I64 x) : Ints w (.slice (some ⟨g, 0, none⟩) ys.length ys.length) ys := by
  refine ⟨⟨some ⟨g, 0, none⟩, ys.length, by rw [ints_length], by rw [ints_length]; exact Nat.le_refl _, by rw [ints_length]; omega, by unfold maxLen; omega, .inr ⟨g, 0, rfl, h.lt, fun k x hx => ?_⟩⟩, hb⟩
  have hk := (List.getElem?_eq_some_iff.1 hx).1
  rw [ints_length] at hk
  rw [Nat.zero_add, h.cell hk, ← hx]
  simp [Ytllokfkagneneaa.ints, hk]

theorem IntBlk.new (w : World) (t : TypeId) (ys : List Int) : IntBlk (w.alloc (.cells (Ytllokfkagneneaa.ints ys).toArray t)) w.heap.size t ys := heap_alloc_new w _

theorem mulS_three (p : Nat) (f x y z : Int) : mulS p f [x, y, z] 0 3 = [f * (x % p) % p, f * (y % p) % p, f * (z % p) % p] := by simp [mulS, List.mapIdx_cons]

set_option maxHeartbeats 2000000 in
set_option maxRecDepth 100000 in
theorem number_any (b p : Nat) (x y z : Int) (w : World) (h : PlaneAt w b p) (hp : isPn p) (hx : I64 x) (hy : I64 y) (hz : I64 z) :
    Calls Try.prog 72 #[.pointer (some ⟨b, 0, none⟩), tri x y z] w fun e w' => e = .returned (.int .i64 (numS p x y z)) ∧ Below w.heap.size w w' := by
  obtain ⟨hp2, hp7⟩ := hp.le
  obtain ⟨f1, f2⟩ := facS_bd p [x, y, z]
  have H0 := Lib.hid h
  have hP : PlaneAt (w.alloc (.cells #[.int .i64 x, .int .i64 y, .int .i64 z] 31)) b p := h.below ((Below.refl _ _).alloc (Nat.le_refl _) _) (Nat.le_refl _)
  obtain ⟨v, c0, c1, hT, hb⟩ := hP
  have hbl : b < w.heap.size := by obtain ⟨_, _, _, _, h⟩ := h; exact h
  have hI : IntBlk (w.alloc (.cells #[.int .i64 x, .int .i64 y, .int .i64 z] 31)) w.heap.size 31 [x, y, z] := IntBlk.new w 31 [x, y, z]
  have HIn := Lib.hid (hI.ints (by simp) (by simp; exact ⟨hx, hy, hz⟩))
  have HB := Lib.hid ((Below.refl w.heap.size w).alloc (Nat.le_refl _) (.cells #[.int .i64 x, .int .i64 y, .int .i64 z] 31))
  have HI := Lib.hid hI
  have HT := Lib.hid hT
  have HC1 := Lib.hid c1
  have HC0 := Lib.hid c0
  have HS : Hid (numS p x y z = idxS (ptsL p) (facS p [x, y, z] * (x % p) % p, facS p [x, y, z] * (y % p) % p, facS p [x, y, z] * (z % p) % p)) := rfl
  have hbs : w.heap.size < (w.alloc (.cells #[.int .i64 x, .int .i64 y, .int .i64 z] 31)).heap.size := by simp
  clear hI hT c1 h hx hy hz c0
  go_enter Try.func72, Try.ntmps72
  go_wp2
  generalize hW : w.alloc (.cells #[.int .i64 x, .int .i64 y, .int .i64 z] 31) = W at *
  have HW := Lib.hid hW
  clear hW
  generalize hF : facS p [x, y, z] = f at *
  have HF := Lib.hid hF
  clear hF
  have HCd : Hid (W.drew.cell? ⟨b, 0, none⟩ = some (.int .i64 p)) := HC0.out
  have HInd : Hid (Ints W.drew (.slice (some ⟨w.heap.size, 0, none⟩) 3 3) [x, y, z]) := HIn.out
  have HFa := Lib.hid ((factor_any b p _ [x, y, z] _ HCd.out (by omega) (by omega) HInd.out))
  rw [HF.out] at HFa
  have HM : Hid (∀ nq : Nat, Calls Try.prog 111 #[.pointer (some ⟨b, 0, none⟩), .int .i64 f, .slice (some ⟨w.heap.size, 0, none⟩) 3 3] (W.drewN nq) fun e w' => e = .returned (.tuple #[]) ∧ IntBlk w' w.heap.size 31 (mulS p f [x, y, z] 0 3) ∧ W.grownBy w' (some w.heap.size)) :=
    fun nq => (multiply_any b p w.heap.size 0 3 3 31 f [x, y, z] (W.drewN nq) HC0.out (by omega) (by omega) (by omega) (by omega) HI.out (by simp) (by omega) (by omega) (by simp)).mono fun e w' h => ⟨h.1, h.2.1, ⟨h.2.2.os, h.2.2.tape, h.2.2.output, h.2.2.size, h.2.2.block⟩⟩
  go_region_with (first | (go_at_call 112; refine HFa.out.mono ?_; rintro e w' ⟨rfl, nq, rfl⟩) | (go_at_call 111; refine (HM.out _).mono ?_; rintro e w' ⟨rfl, hblk, hgr⟩))
  have hb4 := HB.out.grown hgr (by omega) (fun k hk => by cases hk; exact Nat.le_refl _)
  rw [mulS_three] at hblk
  have d0 := hblk.cell (i := 0) (by simp)
  have d1 := hblk.cell (i := 1) (by simp)
  have d2 := hblk.cell (i := 2) (by simp)
  simp only [List.getD_cons_zero, List.getD_cons_succ] at d0 d1 d2
  obtain ⟨v', _, c1, hT', _⟩ := H0.out.below hb4 (Nat.le_refl _)
  have HB4 := Lib.hid hb4
  generalize f * (x % (p:Int)) % (p:Int) = x' at *
  generalize f * (y % (p:Int)) % (p:Int) = y' at *
  generalize f * (z % (p:Int)) % (p:Int) = z' at *
  have HI3 : Hid (Calls Try.prog 113 #[v', tri x' y' z'] w'.drew fun e w'' => e = .returned (.int .i64 (idxS (ptsL p) (x', y', z'))) ∧ Below w'.heap.size w' w'') := (index3_any v' (ptsL p) x' y' z' w'.drew (hT'.below (Below.refl _ _).drew (Nat.le_refl _))).mono fun e w'' h => ⟨h.1, ((Below.refl _ _).drew).trans h.2⟩
  clear hblk hT' hb4 HT HC1 HC0 HFa HM HIn HInd HCd
  go_wp2
  go_region_with ((go_at_call 113; refine HI3.out.mono ?_; rintro e w3 ⟨rfl, hb3⟩))
  all_goals go_wp2
  all_goals go_ret
  all_goals exact ⟨ret_int HS.out.symm, HB4.out.trans (hb3.mono HB4.out.size)⟩
end Go.Proofs.Ytllokfkagneneaa
