/- MirrorParts -/
import Derived.Test.YtlnbodpdgebflaaOh
import Derived.Test.YtlnbodpdgebflaaMg
namespace Go.Proofs.Ytlnbodpdgebflaa
open Go.RowKit

def partsB (g x m : Nat) : Bool :=
  let c := shB g m x
  let r := mul g (bk g c) x
  (letS (wd g r) ^^^ (letS (wd g r) &&& m) == 0) && (ln g c + ln g r == ln g x) && (mul g c r == x) && (shB g m c == c) && (flS g c (kM g) &&& m == 0)
theorem parts_chk : ((List.range 17).all fun g => (List.range (nE g)).all fun x => (List.range (2 ^ kM g)).all fun m => partsB g x m) = true := by decide +kernel
theorem parts_ok {g x m : Nat} (hg : g < 17) (hx : x < nE g) (hm : m < 2 ^ kM g) : partsB g x m = true :=
  List.all_eq_true.1 (List.all_eq_true.1 (List.all_eq_true.1 parts_chk g (List.mem_range.2 hg)) x (List.mem_range.2 hx)) m (List.mem_range.2 hm)

theorem bl1 {W W' : World} {o : Obj} (h : Below (W.alloc o).heap.size (W.alloc o) W') : Below W.heap.size W W' := (a1 W o).trans (h.mono (by simp))
theorem bl2 {W W' : World} {o p : Obj} (h : Below ((W.alloc o).alloc p).heap.size ((W.alloc o).alloc p) W') : Below W.heap.size W W' := bl1 (bl1 h)
theorem bl3 {W W' : World} {o p q : Obj} (h : Below (((W.alloc o).alloc p).alloc q).heap.size (((W.alloc o).alloc p).alloc q) W') : Below W.heap.size W W' := bl1 (bl1 (bl1 h))
theorem listOk {l : List Int} (h : l.length ≤ 30) (v : Value) (W : World) (hv : Ints W v l) : Calls Try.prog 21 #[v] W fun e w' => ∃ a c, e = .returned (.slice a l.length c) ∧ Ints w' (.slice a l.length c) l ∧ Below W.heap.size W w' :=
  (list_any v l W hv).mono fun e w' hh => by
    obtain ⟨v', rfl, h1, h2⟩ := hh
    rw [List.take_of_length_le (by omega)] at h1
    obtain ⟨a, c, rfl, _⟩ := h1.open
    exact ⟨a, c, rfl, h1, h2⟩
theorem listBad (l : List Int) (v : Value) (W : World) (hv : Ints W v l) : Calls Try.prog 21 #[v] W fun e w' => ∃ a c, e = .returned (.slice a (l.take 34).length c) ∧ Ints w' (.slice a (l.take 34).length c) (l.take 34) ∧ Below W.heap.size W w' :=
  (list_any v l W hv).mono fun e w' hh => by
    obtain ⟨v', rfl, h1, h2⟩ := hh
    obtain ⟨a, c, rfl, _⟩ := h1.open
    exact ⟨a, c, rfl, h1, h2⟩
/-- The normal word of y in memory. -/
def Wn (W : World) (v : Value) (g y : Nat) : Prop := Nats W v (wd g y)
theorem Wn.below {W W' : World} {B : Nat} {v : Value} {g y : Nat} (h : Wn W v g y) (hb : Below B W W') (hB : W.heap.size ≤ B) : Wn W' v g y := Ints.below h hb hB
theorem Wn.alloc {W : World} {v : Value} {g y : Nat} (h : Wn W v g y) (o : Obj) : Wn (W.alloc o) v g y := Ints.alloc h o
theorem cloneW {g y : Nat} (hg : g < 17) (hy : y < nE g) (v : Value) (W : World) (h : Wn W v g y) : Calls Try.prog 57 #[v] W fun e w' => ∃ a c, e = .returned (.slice a (ln g y) c) ∧ Wn w' (.slice a (ln g y) c) g y ∧ Below W.heap.size W w' :=
  (clone1_any v _ W h).mono fun e w' hh => by
    obtain ⟨a, c, rfl, ho, hb⟩ := hh
    have h12 := (tx hg hy).2.1
    have hl : (nats (wd g y)).length = ln g y := nats_length _
    rw [hl] at ho ⊢
    exact ⟨a, c, rfl, Ints.of_owns (n := ln g y) ho (by omega) (nats_I64 (wd_bd hg hy)), hb⟩
theorem equalW {g y : Nat} (v v' : Value) (W : World) (h : Wn W v g y) (h' : Wn W v' g y) : Calls Try.prog 28 #[v, v'] W fun e w' => e = .returned (.bool true) ∧ Below W.heap.size W w' :=
  (equal_any v v' _ _ W h h').mono fun e w' hh => by
    obtain ⟨rfl, hb⟩ := hh
    exact ⟨by rw [show eqB (nats (wd g y)) (nats (wd g y)) = true from decide_eq_true rfl], hb⟩
theorem normW {g : Nat} (hg : g < 17) {l : List Int} (hw : wordB g l = true) (v : Value) (W : World) (h : Ints W v l) : Calls Try.prog 19 #[gV (kd g) (nm g), v] W fun e w' =>
    ∃ a c, e = .returned (.tuple #[.slice a (ln g (folI g l)) c, .int .i64 0]) ∧ Wn w' (.slice a (ln g (folI g l)) c) g (folI g l) ∧ Below W.heap.size W w' := Normal_ok g hg v l W h hw
theorem backW {g y : Nat} (hg : g < 17) (hy : y < nE g) (v : Value) (W : World) (h : Wn W v g y) : Calls Try.prog 33 #[gV (kd g) (nm g), v] W fun e w' =>
    ∃ a c, e = .returned (.tuple #[.slice a (ln g (bk g y)) c, .int .i64 0]) ∧ Wn w' (.slice a (ln g (bk g y)) c) g (bk g y) ∧ Below W.heap.size W w' := by
  have h1 := Back_ok g hg v _ W h (word_wd hg hy)
  rwa [folI_rev hg (word_wd hg hy), folI_wd hg hy] at h1
theorem timesL {g y : Nat} (hg : g < 17) (hy : y < nE g) {l : List Int} (hw : wordB g l = true) (v v' : Value) (W : World) (h : Wn W v g y) (h' : Ints W v' l) : Calls Try.prog 32 #[gV (kd g) (nm g), v, v'] W fun e w' =>
    ∃ a c, e = .returned (.tuple #[.slice a (ln g (mul g y (folI g l))) c, .int .i64 0]) ∧ Wn w' (.slice a (ln g (mul g y (folI g l))) c) g (mul g y (folI g l)) ∧ Below W.heap.size W w' := by
  have h1 := Times_ok g hg v v' _ l W h h' (word_wd hg hy) hw
  rwa [folI_wd hg hy, fol_toN hg hy hw] at h1
theorem timesW {g y x : Nat} (hg : g < 17) (hy : y < nE g) (hx : x < nE g) (v v' : Value) (W : World) (h : Wn W v g y) (h' : Wn W v' g x) : Calls Try.prog 32 #[gV (kd g) (nm g), v, v'] W fun e w' =>
    ∃ a c, e = .returned (.tuple #[.slice a (ln g (mul g y x)) c, .int .i64 0]) ∧ Wn w' (.slice a (ln g (mul g y x)) c) g (mul g y x) ∧ Below W.heap.size W w' := by
  have h1 := timesL hg hy (word_wd hg hx) v v' W h h'
  rwa [folI_wd hg hx] at h1
theorem cosetW {g y m : Nat} (hg : g < 17) (hy : y < nE g) (hm : m < 2 ^ kM g) (v : Value) (W : World) (h : Wn W v g y) : Calls Try.prog 50 #[gV (kd g) (nm g), v, .int .i64 m] W fun e w' =>
    ∃ a c, e = .returned (.tuple #[.slice a (ln g (shB g m y)) c, .int .i64 0]) ∧ Wn w' (.slice a (ln g (shB g m y)) c) g (shB g m y) ∧ Below W.heap.size W w' := by
  have h1 := Coset_ok g hg v _ m hm W h (word_wd hg hy)
  rwa [folI_wd hg hy] at h1
theorem fallsW {g y : Nat} (hg : g < 17) (hy : y < nE g) (v : Value) (W : World) (h : Wn W v g y) : Calls Try.prog 41 #[gV (kd g) (nm g), v] W fun e w' =>
    e = .returned (.tuple #[.int .i64 (flS g y (kM g) : Nat), .int .i64 0]) ∧ Below W.heap.size W w' := by
  have h1 := Falls_ok g hg v _ W h (word_wd hg hy)
  rwa [folI_wd hg hy] at h1
theorem lettersW {g y : Nat} (hg : g < 17) (hy : y < nE g) (v : Value) (W : World) (h : Wn W v g y) : Calls Try.prog 60 #[v] W fun e w' => e = .returned (.int .i64 (letS (wd g y) : Nat)) ∧ Below W.heap.size W w' :=
  (letters_any v _ W h (fun x hx => by have := Let.wd hg hy x hx; have := (tg hg).2.2.2.1; omega)).mono fun e w' hh => ⟨hh.1, hh.2 ▸ Below.refl _ _⟩
/-- The last walk of a law that has nothing to say: its error is ErrArg. -/
theorem badCase {k n : Int} {l : List Int} (h : ¬ ∃ g, g < 17 ∧ k = (kd g : Nat) ∧ n = (nm g : Nat) ∧ wordB g l = true) : Bad k n [l.take 34] := by
  by_cases hk : grpB k n = true
  · obtain ⟨g, hg, h1, h2⟩ := grp_of hk
    refine .inr ⟨g, hg, h1, h2, ?_⟩
    cases hw : wordB g l with
    | true => exact absurd ⟨g, hg, h1, h2, hw⟩ h
    | false => simpa [word_take] using hw
  · exact .inl (by simpa using hk)

set_option maxRecDepth 100000 in
set_option maxHeartbeats 2000000 in
theorem parts_bad (k n : Int) (v : Value) (l : List Int) (m : Int) (w : World) (h : Ints w v l) (hb0 : Bad k n [l.take 34]) : Calls Try.prog 15 #[gV k n, v, .int .i64 m] w fun e w' => e = .returned (.bool true) ∧ Below w.heap.size w w' := by
  have HOf := Lib.hid (fun W => Of_any k n W)
  have HLi := Lib.hid (fun v W h => listBad l v W h)
  generalize l.take 34 = l2 at *
  have HCo := Lib.hid (fun v W h => Coset_bad k n v l2 m W h hb0)
  have HAw := Lib.hid (fun W => awake_any W)
  obtain ⟨va, vc, rfl, _, _, _⟩ := h.open
  have HV0 := Lib.hid h
  clear h hb0
  go_enter Try.func15, Try.ntmps15
  go_wp2_with fail
  refine (HOf.out _).mono ?_
  rintro e w1 ⟨rfl, hb⟩
  have HG : Hid (Blk 23 w1 w.heap.size #[.int .u8 k, .int .i64 n]) := Lib.hid ((Blk.new _ _ _).below hb)
  have HB : Hid (Below w.heap.size w w1) := Lib.hid (bl1 hb)
  have HV := Lib.hid (HV0.out.below HB.out (Nat.le_refl _))
  clear hb HV0
  have g0 := HG.out.at0.1
  have g1 := HG.out.at0.2
  go_wp2_with fail
  clear g0 g1
  refine (HLi.out _ _ HV.out).mono ?_
  rintro e w2 ⟨la, lc, rfl, hl1, hb⟩
  have HBn : Hid (Below w1.heap.size w1 w2) := Lib.hid (hb)
  have HG_n := Lib.hid (HG.out.below HBn.out)
  have HV_n := Lib.hid (HV.out.below HBn.out (Nat.le_refl _))
  have HB_n := Lib.hid (HB.out.trans (HBn.out.mono HB.out.size))
  clear HG HV HB
  have HG := HG_n
  have HV := HV_n
  have HB := HB_n
  clear HG_n HV_n HB_n HBn hb
  have HL1 := Lib.hid hl1
  clear hl1
  have g0 := HG.out.at0.1
  have g1 := HG.out.at0.2
  go_wp2_with fail
  clear g0 g1
  refine (HCo.out _ _ HL1.out).mono ?_
  rintro e w3 ⟨rfl, hb⟩
  have HBn : Hid (Below w2.heap.size w2 w3) := Lib.hid (hb)
  have HG_n := Lib.hid (HG.out.below HBn.out)
  have HV_n := Lib.hid (HV.out.below HBn.out (Nat.le_refl _))
  have HL1_n := Lib.hid (HL1.out.below HBn.out (Nat.le_refl _))
  have HB_n := Lib.hid (HB.out.trans (HBn.out.mono HB.out.size))
  clear HG HV HL1 HB
  have HG := HG_n
  have HV := HV_n
  have HL1 := HL1_n
  have HB := HB_n
  clear HG_n HV_n HL1_n HB_n HBn hb
  have g0 := HG.out.at0.1
  have g1 := HG.out.at0.2
  go_wp2_with fail
  clear g0 g1
  refine (HAw.out _).mono ?_
  rintro e w4 ⟨rfl, hb⟩
  have HBn : Hid (Below w3.heap.size w3 w4) := Lib.hid (hb)
  have HG_n := Lib.hid (HG.out.below HBn.out)
  have HV_n := Lib.hid (HV.out.below HBn.out (Nat.le_refl _))
  have HL1_n := Lib.hid (HL1.out.below HBn.out (Nat.le_refl _))
  have HB_n := Lib.hid (HB.out.trans (HBn.out.mono HB.out.size))
  clear HG HV HL1 HB
  have HG := HG_n
  have HV := HV_n
  have HL1 := HL1_n
  have HB := HB_n
  clear HG_n HV_n HL1_n HB_n HBn hb
  have g0 := HG.out.at0.1
  have g1 := HG.out.at0.2
  go_wp2_with fail
  go_ret
  exact ⟨rfl, HB.out⟩

set_option maxRecDepth 100000 in
set_option maxHeartbeats 2000000 in
theorem parts_out (g : Nat) (hg : g < 17) (v : Value) (l : List Int) (m : Int) (w : World) (h : Ints w v l) (hw : wordB g l = true) (hm : m < 0 ∨ ((2 ^ kM g : Nat) : Int) ≤ m) : Calls Try.prog 15 #[gV (kd g) (nm g), v, .int .i64 m] w fun e w' => e = .returned (.bool true) ∧ Below w.heap.size w w' := by
  have hl30 : l.length ≤ 30 := by simp [wordB] at hw; omega
  have HOf := Lib.hid (fun W => Of_any (kd g) (nm g) W)
  have HLi := Lib.hid (fun v W h => listOk hl30 v W h)
  have HCo := Lib.hid (fun v W h => Coset_out g hg v l m hm W h hw)
  have HAw := Lib.hid (fun W => awake_any W)
  obtain ⟨va, vc, rfl, _, _, _⟩ := h.open
  have HV0 := Lib.hid h
  clear h hm hw
  go_enter Try.func15, Try.ntmps15
  go_wp2_with fail
  refine (HOf.out _).mono ?_
  rintro e w1 ⟨rfl, hb⟩
  have HG : Hid (Blk 23 w1 w.heap.size #[.int .u8 (kd g), .int .i64 (nm g)]) := Lib.hid ((Blk.new _ _ _).below hb)
  have HB : Hid (Below w.heap.size w w1) := Lib.hid (bl1 hb)
  have HV := Lib.hid (HV0.out.below HB.out (Nat.le_refl _))
  clear hb HV0
  have g0 := HG.out.at0.1
  have g1 := HG.out.at0.2
  go_wp2_with fail
  clear g0 g1
  refine (HLi.out _ _ HV.out).mono ?_
  rintro e w2 ⟨la, lc, rfl, hl1, hb⟩
  have HBn : Hid (Below w1.heap.size w1 w2) := Lib.hid (hb)
  have HG_n := Lib.hid (HG.out.below HBn.out)
  have HV_n := Lib.hid (HV.out.below HBn.out (Nat.le_refl _))
  have HB_n := Lib.hid (HB.out.trans (HBn.out.mono HB.out.size))
  clear HG HV HB
  have HG := HG_n
  have HV := HV_n
  have HB := HB_n
  clear HG_n HV_n HB_n HBn hb
  have HL1 := Lib.hid hl1
  clear hl1
  have g0 := HG.out.at0.1
  have g1 := HG.out.at0.2
  go_wp2_with fail
  clear g0 g1
  refine (HCo.out _ _ HL1.out).mono ?_
  rintro e w3 ⟨rfl, hb⟩
  have HBn : Hid (Below w2.heap.size w2 w3) := Lib.hid (hb)
  have HG_n := Lib.hid (HG.out.below HBn.out)
  have HV_n := Lib.hid (HV.out.below HBn.out (Nat.le_refl _))
  have HL1_n := Lib.hid (HL1.out.below HBn.out (Nat.le_refl _))
  have HB_n := Lib.hid (HB.out.trans (HBn.out.mono HB.out.size))
  clear HG HV HL1 HB
  have HG := HG_n
  have HV := HV_n
  have HL1 := HL1_n
  have HB := HB_n
  clear HG_n HV_n HL1_n HB_n HBn hb
  have g0 := HG.out.at0.1
  have g1 := HG.out.at0.2
  go_wp2_with fail
  clear g0 g1
  refine (HAw.out _).mono ?_
  rintro e w4 ⟨rfl, hb⟩
  have HBn : Hid (Below w3.heap.size w3 w4) := Lib.hid (hb)
  have HG_n := Lib.hid (HG.out.below HBn.out)
  have HV_n := Lib.hid (HV.out.below HBn.out (Nat.le_refl _))
  have HL1_n := Lib.hid (HL1.out.below HBn.out (Nat.le_refl _))
  have HB_n := Lib.hid (HB.out.trans (HBn.out.mono HB.out.size))
  clear HG HV HL1 HB
  have HG := HG_n
  have HV := HV_n
  have HL1 := HL1_n
  have HB := HB_n
  clear HG_n HV_n HL1_n HB_n HBn hb
  have g0 := HG.out.at0.1
  have g1 := HG.out.at0.2
  go_wp2_with fail
  go_ret
  exact ⟨rfl, HB.out⟩

set_option maxRecDepth 100000 in
set_option maxHeartbeats 4000000 in
theorem parts_good (g : Nat) (hg : g < 17) (v : Value) (l : List Int) (m : Nat) (w : World) (h : Ints w v l) (hw : wordB g l = true) (hm : m < 2 ^ kM g) : Calls Try.prog 15 #[gV (kd g) (nm g), v, .int .i64 m] w fun e w' => e = .returned (.bool true) ∧ Below w.heap.size w w' := by
  have hl30 : l.length ≤ 30 := by simp [wordB] at hw; omega
  have HOf := Lib.hid (fun W => Of_any (kd g) (nm g) W)
  have HLi := Lib.hid (fun v W h => listOk hl30 v W h)
  have HAw := Lib.hid (fun W => awake_any W)
  have hX := folI_lt hg hw
  have hm16 : m < 16 := Nat.lt_of_lt_of_le hm (Nat.pow_le_pow_right (n := 2) (by decide) (tg hg).2.2.2.1)
  have hC := shB_lt hg m _ hX
  have hB0 := bk_lt hg hC
  have hR := mul_lt hg hB0 hX
  have hpk := parts_ok hg hX hm
  unfold partsB at hpk
  simp only [Bool.and_eq_true, beq_iff_eq] at hpk
  obtain ⟨⟨⟨⟨q1, q2⟩, q3⟩, q4⟩, q5⟩ := hpk
  have HCo : Hid (∀ v W, Ints W v l → Calls Try.prog 50 #[gV (kd g) (nm g), v, .int .i64 m] W fun e w' => ∃ a c, e = .returned (.tuple #[.slice a (ln g (shB g m (folI g l))) c, .int .i64 0]) ∧ Wn w' (.slice a (ln g (shB g m (folI g l))) c) g (shB g m (folI g l)) ∧ Below W.heap.size W w') := Lib.hid (fun v W h => Coset_ok g hg v l m hm W h hw)
  have HFi := Lib.hid (fun v W h => fine_any g hg v [l] W h (by simp))
  rw [show [l].all (wordB g) = true by simp [hw]] at HFi
  have HClC := Lib.hid (fun v W h => cloneW hg hC v W h)
  have HBk := Lib.hid (fun v W h => backW hg hC v W h)
  have HT1 := Lib.hid (fun v v' W h h' => timesL hg hB0 hw v v' W h h')
  have HNo := Lib.hid (fun v W h => normW hg hw v W h)
  have HClR := Lib.hid (fun v W h => cloneW hg hR v W h)
  have HT2 := Lib.hid (fun v v' W h h' => timesW hg hC hR v v' W h h')
  rw [q3] at HT2
  have HC2 := Lib.hid (fun v W h => cosetW hg hC hm v W h)
  rw [q4] at HC2
  have HFa := Lib.hid (fun v W h => fallsW hg hC v W h)
  have HFr := Lib.hid (fun v W h => fine_any g hg v [nats (wd g (mul g (bk g (shB g m (folI g l))) (folI g l)))] W h (by simp))
  rw [show [nats (wd g (mul g (bk g (shB g m (folI g l))) (folI g l)))].all (wordB g) = true by simp [word_wd hg hR]] at HFr
  have HLe := Lib.hid (fun v W h => lettersW hg hR v W h)
  have HEx := Lib.hid (fun v v' W h h' => equalW (g := g) (y := folI g l) v v' W h h')
  have HEc := Lib.hid (fun v v' W h h' => equalW (g := g) (y := shB g m (folI g l)) v v' W h h')
  have hls := letS_lt _ (wd g (mul g (bk g (shB g m (folI g l))) (folI g l))) rfl (fun x hx => by have := Let.wd hg hR x hx; have := (tg hg).2.2.2.1; omega)
  have hfs := flS_lt g (shB g m (folI g l)) (kM g)
  have hfs16 : flS g (shB g m (folI g l)) (kM g) < 16 := Nat.lt_of_lt_of_le hfs (Nat.pow_le_pow_right (n := 2) (by decide) (tg hg).2.2.2.1)
  have e1 := i64_andNot (letS (wd g (mul g (bk g (shB g m (folI g l))) (folI g l)))) m (by omega) (by omega)
  rw [q1] at e1
  have e2 := i64_and (flS g (shB g m (folI g l)) (kM g)) m (by omega) (by omega)
  rw [q5] at e2
  have e3 : ((ln g (shB g m (folI g l)) : Nat) : Int) + (ln g (mul g (bk g (shB g m (folI g l))) (folI g l)) : Nat) = (ln g (folI g l) : Nat) := by omega
  have b1 := (tx hg hC).2.1
  have b2 := (tx hg hR).2.1
  have b3 := (tx hg hX).2.1
  clear q1 q2 q3 q4 q5 hfs hm hw
  obtain ⟨va, vc, rfl, _, _, _⟩ := h.open
  have HV0 := Lib.hid h
  clear h
  generalize mul g (bk g (shB g m (folI g l))) (folI g l) = R at *
  generalize bk g (shB g m (folI g l)) = B0 at *
  generalize shB g m (folI g l) = C at *
  generalize folI g l = X at *
  generalize letS (wd g R) = lS at *
  generalize flS g C (kM g) = fS at *
  generalize ln g R = lR at *
  generalize ln g B0 = lB at *
  generalize ln g C = lC at *
  generalize ln g X = lX at *
  go_enter Try.func15, Try.ntmps15
  go_wp2_with fail
  refine (HOf.out _).mono ?_
  rintro e w1 ⟨rfl, hb⟩
  have HG : Hid (Blk 23 w1 w.heap.size #[.int .u8 (kd g), .int .i64 (nm g)]) := Lib.hid ((Blk.new _ _ _).below hb)
  have HB : Hid (Below w.heap.size w w1) := Lib.hid (bl1 hb)
  have HV := Lib.hid (HV0.out.below HB.out (Nat.le_refl _))
  clear hb HV0
  have g0 := HG.out.at0.1
  have g1 := HG.out.at0.2
  go_wp2_with fail
  clear g0 g1
  refine (HLi.out _ _ HV.out).mono ?_
  rintro e w2 ⟨la, lc, rfl, hl1, hb⟩
  have HBn : Hid (Below w1.heap.size w1 w2) := Lib.hid (hb)
  have HG_n := Lib.hid (HG.out.below HBn.out)
  have HV_n := Lib.hid (HV.out.below HBn.out (Nat.le_refl _))
  have HB_n := Lib.hid (HB.out.trans (HBn.out.mono HB.out.size))
  clear HG HV HB
  have HG := HG_n
  have HV := HV_n
  have HB := HB_n
  clear HG_n HV_n HB_n HBn hb
  have HL1 := Lib.hid hl1
  clear hl1
  have g0 := HG.out.at0.1
  have g1 := HG.out.at0.2
  go_wp2_with fail
  clear g0 g1
  refine (HCo.out _ _ HL1.out).mono ?_
  rintro e w3 ⟨ca, cc, rfl, hc, hb⟩
  have HBn : Hid (Below w2.heap.size w2 w3) := Lib.hid (hb)
  have HG_n := Lib.hid (HG.out.below HBn.out)
  have HV_n := Lib.hid (HV.out.below HBn.out (Nat.le_refl _))
  have HL1_n := Lib.hid (HL1.out.below HBn.out (Nat.le_refl _))
  have HB_n := Lib.hid (HB.out.trans (HBn.out.mono HB.out.size))
  clear HG HV HL1 HB
  have HG := HG_n
  have HV := HV_n
  have HL1 := HL1_n
  have HB := HB_n
  clear HG_n HV_n HL1_n HB_n HBn hb
  have HC := Lib.hid hc
  clear hc
  have g0 := HG.out.at0.1
  have g1 := HG.out.at0.2
  go_wp2_with fail
  clear HL1
  clear g0 g1
  refine (HFi.out _ _ (rows1 (Blk.new _ _ _) (HV.out.alloc _))).mono ?_
  rintro e w4 ⟨rfl, hb⟩
  have HBn : Hid (Below w3.heap.size w3 w4) := Lib.hid (bl1 hb)
  have HG_n := Lib.hid (HG.out.below HBn.out)
  have HV_n := Lib.hid (HV.out.below HBn.out (Nat.le_refl _))
  have HC_n := Lib.hid (HC.out.below HBn.out (Nat.le_refl _))
  have HB_n := Lib.hid (HB.out.trans (HBn.out.mono HB.out.size))
  clear HG HV HC HB
  have HG := HG_n
  have HV := HV_n
  have HC := HC_n
  have HB := HB_n
  clear HG_n HV_n HC_n HB_n HBn hb
  have g0 := HG.out.at0.1
  have g1 := HG.out.at0.2
  go_wp2_with fail
  clear g0 g1
  refine (HOf.out _).mono ?_
  rintro e w5 ⟨rfl, hb⟩
  have HBn : Hid (Below w4.heap.size w4 w5) := Lib.hid (hb)
  have HG_n := Lib.hid (HG.out.below HBn.out)
  have HV_n := Lib.hid (HV.out.below HBn.out (Nat.le_refl _))
  have HC_n := Lib.hid (HC.out.below HBn.out (Nat.le_refl _))
  have HB_n := Lib.hid (HB.out.trans (HBn.out.mono HB.out.size))
  clear HG HV HC HB
  have HG := HG_n
  have HV := HV_n
  have HC := HC_n
  have HB := HB_n
  clear HG_n HV_n HC_n HB_n HBn hb
  have g0 := HG.out.at0.1
  have g1 := HG.out.at0.2
  go_wp2_with fail
  clear g0 g1
  refine (HClC.out _ _ HC.out).mono ?_
  rintro e w6 ⟨a1_, c1_, rfl, hd, hb⟩
  have HBn : Hid (Below w5.heap.size w5 w6) := Lib.hid (hb)
  have HG_n := Lib.hid (HG.out.below HBn.out)
  have HV_n := Lib.hid (HV.out.below HBn.out (Nat.le_refl _))
  have HC_n := Lib.hid (HC.out.below HBn.out (Nat.le_refl _))
  have HB_n := Lib.hid (HB.out.trans (HBn.out.mono HB.out.size))
  clear HG HV HC HB
  have HG := HG_n
  have HV := HV_n
  have HC := HC_n
  have HB := HB_n
  clear HG_n HV_n HC_n HB_n HBn hb
  have HD := Lib.hid hd
  clear hd
  have g0 := HG.out.at0.1
  have g1 := HG.out.at0.2
  go_wp2_with fail
  clear g0 g1
  refine (HBk.out _ _ HD.out).mono ?_
  rintro e w7 ⟨ba, bc, rfl, hbk, hb⟩
  have HBn : Hid (Below w6.heap.size w6 w7) := Lib.hid (hb)
  have HG_n := Lib.hid (HG.out.below HBn.out)
  have HV_n := Lib.hid (HV.out.below HBn.out (Nat.le_refl _))
  have HC_n := Lib.hid (HC.out.below HBn.out (Nat.le_refl _))
  have HD_n := Lib.hid (HD.out.below HBn.out (Nat.le_refl _))
  have HB_n := Lib.hid (HB.out.trans (HBn.out.mono HB.out.size))
  clear HG HV HC HD HB
  have HG := HG_n
  have HV := HV_n
  have HC := HC_n
  have HD := HD_n
  have HB := HB_n
  clear HG_n HV_n HC_n HD_n HB_n HBn hb
  have HBK := Lib.hid hbk
  clear hbk
  have g0 := HG.out.at0.1
  have g1 := HG.out.at0.2
  go_wp2_with fail
  clear HD
  clear g0 g1
  refine (HOf.out _).mono ?_
  rintro e w8 ⟨rfl, hb⟩
  have HBn : Hid (Below w7.heap.size w7 w8) := Lib.hid (hb)
  have HG_n := Lib.hid (HG.out.below HBn.out)
  have HV_n := Lib.hid (HV.out.below HBn.out (Nat.le_refl _))
  have HC_n := Lib.hid (HC.out.below HBn.out (Nat.le_refl _))
  have HBK_n := Lib.hid (HBK.out.below HBn.out (Nat.le_refl _))
  have HB_n := Lib.hid (HB.out.trans (HBn.out.mono HB.out.size))
  clear HG HV HC HBK HB
  have HG := HG_n
  have HV := HV_n
  have HC := HC_n
  have HBK := HBK_n
  have HB := HB_n
  clear HG_n HV_n HC_n HBK_n HB_n HBn hb
  have g0 := HG.out.at0.1
  have g1 := HG.out.at0.2
  go_wp2_with fail
  clear g0 g1
  refine (HLi.out _ _ HV.out).mono ?_
  rintro e w9 ⟨la2, lc2, rfl, hl2, hb⟩
  have HBn : Hid (Below w8.heap.size w8 w9) := Lib.hid (hb)
  have HG_n := Lib.hid (HG.out.below HBn.out)
  have HV_n := Lib.hid (HV.out.below HBn.out (Nat.le_refl _))
  have HC_n := Lib.hid (HC.out.below HBn.out (Nat.le_refl _))
  have HBK_n := Lib.hid (HBK.out.below HBn.out (Nat.le_refl _))
  have HB_n := Lib.hid (HB.out.trans (HBn.out.mono HB.out.size))
  clear HG HV HC HBK HB
  have HG := HG_n
  have HV := HV_n
  have HC := HC_n
  have HBK := HBK_n
  have HB := HB_n
  clear HG_n HV_n HC_n HBK_n HB_n HBn hb
  have HL2 := Lib.hid hl2
  clear hl2
  have g0 := HG.out.at0.1
  have g1 := HG.out.at0.2
  go_wp2_with fail
  clear g0 g1
  refine (HT1.out _ _ _ HBK.out HL2.out).mono ?_
  rintro e w10 ⟨ra, rc, rfl, hr, hb⟩
  have HBn : Hid (Below w9.heap.size w9 w10) := Lib.hid (hb)
  have HG_n := Lib.hid (HG.out.below HBn.out)
  have HV_n := Lib.hid (HV.out.below HBn.out (Nat.le_refl _))
  have HC_n := Lib.hid (HC.out.below HBn.out (Nat.le_refl _))
  have HBK_n := Lib.hid (HBK.out.below HBn.out (Nat.le_refl _))
  have HL2_n := Lib.hid (HL2.out.below HBn.out (Nat.le_refl _))
  have HB_n := Lib.hid (HB.out.trans (HBn.out.mono HB.out.size))
  clear HG HV HC HBK HL2 HB
  have HG := HG_n
  have HV := HV_n
  have HC := HC_n
  have HBK := HBK_n
  have HL2 := HL2_n
  have HB := HB_n
  clear HG_n HV_n HC_n HBK_n HL2_n HB_n HBn hb
  have HR := Lib.hid hr
  clear hr
  have g0 := HG.out.at0.1
  have g1 := HG.out.at0.2
  go_wp2_with fail
  clear HL2 HBK
  clear g0 g1
  refine (HOf.out _).mono ?_
  rintro e w11 ⟨rfl, hb⟩
  have HBn : Hid (Below w10.heap.size w10 w11) := Lib.hid (hb)
  have HG_n := Lib.hid (HG.out.below HBn.out)
  have HV_n := Lib.hid (HV.out.below HBn.out (Nat.le_refl _))
  have HC_n := Lib.hid (HC.out.below HBn.out (Nat.le_refl _))
  have HR_n := Lib.hid (HR.out.below HBn.out (Nat.le_refl _))
  have HB_n := Lib.hid (HB.out.trans (HBn.out.mono HB.out.size))
  clear HG HV HC HR HB
  have HG := HG_n
  have HV := HV_n
  have HC := HC_n
  have HR := HR_n
  have HB := HB_n
  clear HG_n HV_n HC_n HR_n HB_n HBn hb
  have g0 := HG.out.at0.1
  have g1 := HG.out.at0.2
  go_wp2_with fail
  clear g0 g1
  refine (HLi.out _ _ HV.out).mono ?_
  rintro e w12 ⟨la3, lc3, rfl, hl3, hb⟩
  have HBn : Hid (Below w11.heap.size w11 w12) := Lib.hid (hb)
  have HG_n := Lib.hid (HG.out.below HBn.out)
  have HV_n := Lib.hid (HV.out.below HBn.out (Nat.le_refl _))
  have HC_n := Lib.hid (HC.out.below HBn.out (Nat.le_refl _))
  have HR_n := Lib.hid (HR.out.below HBn.out (Nat.le_refl _))
  have HB_n := Lib.hid (HB.out.trans (HBn.out.mono HB.out.size))
  clear HG HV HC HR HB
  have HG := HG_n
  have HV := HV_n
  have HC := HC_n
  have HR := HR_n
  have HB := HB_n
  clear HG_n HV_n HC_n HR_n HB_n HBn hb
  have HL3 := Lib.hid hl3
  clear hl3
  have g0 := HG.out.at0.1
  have g1 := HG.out.at0.2
  go_wp2_with fail
  clear g0 g1
  refine (HNo.out _ _ HL3.out).mono ?_
  rintro e w13 ⟨xa, xc, rfl, hxx, hb⟩
  have HBn : Hid (Below w12.heap.size w12 w13) := Lib.hid (hb)
  have HG_n := Lib.hid (HG.out.below HBn.out)
  have HV_n := Lib.hid (HV.out.below HBn.out (Nat.le_refl _))
  have HC_n := Lib.hid (HC.out.below HBn.out (Nat.le_refl _))
  have HR_n := Lib.hid (HR.out.below HBn.out (Nat.le_refl _))
  have HL3_n := Lib.hid (HL3.out.below HBn.out (Nat.le_refl _))
  have HB_n := Lib.hid (HB.out.trans (HBn.out.mono HB.out.size))
  clear HG HV HC HR HL3 HB
  have HG := HG_n
  have HV := HV_n
  have HC := HC_n
  have HR := HR_n
  have HL3 := HL3_n
  have HB := HB_n
  clear HG_n HV_n HC_n HR_n HL3_n HB_n HBn hb
  have HXX := Lib.hid hxx
  clear hxx
  have g0 := HG.out.at0.1
  have g1 := HG.out.at0.2
  go_wp2_with fail
  clear HL3
  clear g0 g1
  refine (HOf.out _).mono ?_
  rintro e w14 ⟨rfl, hb⟩
  have HBn : Hid (Below w13.heap.size w13 w14) := Lib.hid (hb)
  have HG_n := Lib.hid (HG.out.below HBn.out)
  have HV_n := Lib.hid (HV.out.below HBn.out (Nat.le_refl _))
  have HC_n := Lib.hid (HC.out.below HBn.out (Nat.le_refl _))
  have HR_n := Lib.hid (HR.out.below HBn.out (Nat.le_refl _))
  have HXX_n := Lib.hid (HXX.out.below HBn.out (Nat.le_refl _))
  have HB_n := Lib.hid (HB.out.trans (HBn.out.mono HB.out.size))
  clear HG HV HC HR HXX HB
  have HG := HG_n
  have HV := HV_n
  have HC := HC_n
  have HR := HR_n
  have HXX := HXX_n
  have HB := HB_n
  clear HG_n HV_n HC_n HR_n HXX_n HB_n HBn hb
  have g0 := HG.out.at0.1
  have g1 := HG.out.at0.2
  go_wp2_with fail
  clear g0 g1
  refine (HClC.out _ _ HC.out).mono ?_
  rintro e w15 ⟨a2_, c2_, rfl, hd2, hb⟩
  have HBn : Hid (Below w14.heap.size w14 w15) := Lib.hid (hb)
  have HG_n := Lib.hid (HG.out.below HBn.out)
  have HV_n := Lib.hid (HV.out.below HBn.out (Nat.le_refl _))
  have HC_n := Lib.hid (HC.out.below HBn.out (Nat.le_refl _))
  have HR_n := Lib.hid (HR.out.below HBn.out (Nat.le_refl _))
  have HXX_n := Lib.hid (HXX.out.below HBn.out (Nat.le_refl _))
  have HB_n := Lib.hid (HB.out.trans (HBn.out.mono HB.out.size))
  clear HG HV HC HR HXX HB
  have HG := HG_n
  have HV := HV_n
  have HC := HC_n
  have HR := HR_n
  have HXX := HXX_n
  have HB := HB_n
  clear HG_n HV_n HC_n HR_n HXX_n HB_n HBn hb
  have HD2 := Lib.hid hd2
  clear hd2
  have g0 := HG.out.at0.1
  have g1 := HG.out.at0.2
  go_wp2_with fail
  clear g0 g1
  refine (HClR.out _ _ HR.out).mono ?_
  rintro e w16 ⟨a3_, c3_, rfl, hd3, hb⟩
  have HBn : Hid (Below w15.heap.size w15 w16) := Lib.hid (hb)
  have HG_n := Lib.hid (HG.out.below HBn.out)
  have HV_n := Lib.hid (HV.out.below HBn.out (Nat.le_refl _))
  have HC_n := Lib.hid (HC.out.below HBn.out (Nat.le_refl _))
  have HR_n := Lib.hid (HR.out.below HBn.out (Nat.le_refl _))
  have HXX_n := Lib.hid (HXX.out.below HBn.out (Nat.le_refl _))
  have HD2_n := Lib.hid (HD2.out.below HBn.out (Nat.le_refl _))
  have HB_n := Lib.hid (HB.out.trans (HBn.out.mono HB.out.size))
  clear HG HV HC HR HXX HD2 HB
  have HG := HG_n
  have HV := HV_n
  have HC := HC_n
  have HR := HR_n
  have HXX := HXX_n
  have HD2 := HD2_n
  have HB := HB_n
  clear HG_n HV_n HC_n HR_n HXX_n HD2_n HB_n HBn hb
  have HD3 := Lib.hid hd3
  clear hd3
  have g0 := HG.out.at0.1
  have g1 := HG.out.at0.2
  go_wp2_with fail
  clear g0 g1
  refine (HT2.out _ _ _ HD2.out HD3.out).mono ?_
  rintro e w17 ⟨ya, yc, rfl, hyy, hb⟩
  have HBn : Hid (Below w16.heap.size w16 w17) := Lib.hid (hb)
  have HG_n := Lib.hid (HG.out.below HBn.out)
  have HV_n := Lib.hid (HV.out.below HBn.out (Nat.le_refl _))
  have HC_n := Lib.hid (HC.out.below HBn.out (Nat.le_refl _))
  have HR_n := Lib.hid (HR.out.below HBn.out (Nat.le_refl _))
  have HXX_n := Lib.hid (HXX.out.below HBn.out (Nat.le_refl _))
  have HD2_n := Lib.hid (HD2.out.below HBn.out (Nat.le_refl _))
  have HD3_n := Lib.hid (HD3.out.below HBn.out (Nat.le_refl _))
  have HB_n := Lib.hid (HB.out.trans (HBn.out.mono HB.out.size))
  clear HG HV HC HR HXX HD2 HD3 HB
  have HG := HG_n
  have HV := HV_n
  have HC := HC_n
  have HR := HR_n
  have HXX := HXX_n
  have HD2 := HD2_n
  have HD3 := HD3_n
  have HB := HB_n
  clear HG_n HV_n HC_n HR_n HXX_n HD2_n HD3_n HB_n HBn hb
  have HYY := Lib.hid hyy
  clear hyy
  have g0 := HG.out.at0.1
  have g1 := HG.out.at0.2
  go_wp2_with fail
  clear HD2 HD3
  clear g0 g1
  refine (HOf.out _).mono ?_
  rintro e w18 ⟨rfl, hb⟩
  have HBn : Hid (Below w17.heap.size w17 w18) := Lib.hid (hb)
  have HG_n := Lib.hid (HG.out.below HBn.out)
  have HV_n := Lib.hid (HV.out.below HBn.out (Nat.le_refl _))
  have HC_n := Lib.hid (HC.out.below HBn.out (Nat.le_refl _))
  have HR_n := Lib.hid (HR.out.below HBn.out (Nat.le_refl _))
  have HXX_n := Lib.hid (HXX.out.below HBn.out (Nat.le_refl _))
  have HYY_n := Lib.hid (HYY.out.below HBn.out (Nat.le_refl _))
  have HB_n := Lib.hid (HB.out.trans (HBn.out.mono HB.out.size))
  clear HG HV HC HR HXX HYY HB
  have HG := HG_n
  have HV := HV_n
  have HC := HC_n
  have HR := HR_n
  have HXX := HXX_n
  have HYY := HYY_n
  have HB := HB_n
  clear HG_n HV_n HC_n HR_n HXX_n HYY_n HB_n HBn hb
  have g0 := HG.out.at0.1
  have g1 := HG.out.at0.2
  go_wp2_with fail
  clear g0 g1
  refine (HClC.out _ _ HC.out).mono ?_
  rintro e w19 ⟨a4_, c4_, rfl, hd4, hb⟩
  have HBn : Hid (Below w18.heap.size w18 w19) := Lib.hid (hb)
  have HG_n := Lib.hid (HG.out.below HBn.out)
  have HV_n := Lib.hid (HV.out.below HBn.out (Nat.le_refl _))
  have HC_n := Lib.hid (HC.out.below HBn.out (Nat.le_refl _))
  have HR_n := Lib.hid (HR.out.below HBn.out (Nat.le_refl _))
  have HXX_n := Lib.hid (HXX.out.below HBn.out (Nat.le_refl _))
  have HYY_n := Lib.hid (HYY.out.below HBn.out (Nat.le_refl _))
  have HB_n := Lib.hid (HB.out.trans (HBn.out.mono HB.out.size))
  clear HG HV HC HR HXX HYY HB
  have HG := HG_n
  have HV := HV_n
  have HC := HC_n
  have HR := HR_n
  have HXX := HXX_n
  have HYY := HYY_n
  have HB := HB_n
  clear HG_n HV_n HC_n HR_n HXX_n HYY_n HB_n HBn hb
  have HD4 := Lib.hid hd4
  clear hd4
  have g0 := HG.out.at0.1
  have g1 := HG.out.at0.2
  go_wp2_with fail
  clear g0 g1
  refine (HC2.out _ _ HD4.out).mono ?_
  rintro e w20 ⟨ga, gc, rfl, hgg, hb⟩
  have HBn : Hid (Below w19.heap.size w19 w20) := Lib.hid (hb)
  have HG_n := Lib.hid (HG.out.below HBn.out)
  have HV_n := Lib.hid (HV.out.below HBn.out (Nat.le_refl _))
  have HC_n := Lib.hid (HC.out.below HBn.out (Nat.le_refl _))
  have HR_n := Lib.hid (HR.out.below HBn.out (Nat.le_refl _))
  have HXX_n := Lib.hid (HXX.out.below HBn.out (Nat.le_refl _))
  have HYY_n := Lib.hid (HYY.out.below HBn.out (Nat.le_refl _))
  have HD4_n := Lib.hid (HD4.out.below HBn.out (Nat.le_refl _))
  have HB_n := Lib.hid (HB.out.trans (HBn.out.mono HB.out.size))
  clear HG HV HC HR HXX HYY HD4 HB
  have HG := HG_n
  have HV := HV_n
  have HC := HC_n
  have HR := HR_n
  have HXX := HXX_n
  have HYY := HYY_n
  have HD4 := HD4_n
  have HB := HB_n
  clear HG_n HV_n HC_n HR_n HXX_n HYY_n HD4_n HB_n HBn hb
  have HGG := Lib.hid hgg
  clear hgg
  have g0 := HG.out.at0.1
  have g1 := HG.out.at0.2
  go_wp2_with fail
  clear HD4
  clear g0 g1
  refine (HOf.out _).mono ?_
  rintro e w21 ⟨rfl, hb⟩
  have HBn : Hid (Below w20.heap.size w20 w21) := Lib.hid (hb)
  have HG_n := Lib.hid (HG.out.below HBn.out)
  have HV_n := Lib.hid (HV.out.below HBn.out (Nat.le_refl _))
  have HC_n := Lib.hid (HC.out.below HBn.out (Nat.le_refl _))
  have HR_n := Lib.hid (HR.out.below HBn.out (Nat.le_refl _))
  have HXX_n := Lib.hid (HXX.out.below HBn.out (Nat.le_refl _))
  have HYY_n := Lib.hid (HYY.out.below HBn.out (Nat.le_refl _))
  have HGG_n := Lib.hid (HGG.out.below HBn.out (Nat.le_refl _))
  have HB_n := Lib.hid (HB.out.trans (HBn.out.mono HB.out.size))
  clear HG HV HC HR HXX HYY HGG HB
  have HG := HG_n
  have HV := HV_n
  have HC := HC_n
  have HR := HR_n
  have HXX := HXX_n
  have HYY := HYY_n
  have HGG := HGG_n
  have HB := HB_n
  clear HG_n HV_n HC_n HR_n HXX_n HYY_n HGG_n HB_n HBn hb
  have g0 := HG.out.at0.1
  have g1 := HG.out.at0.2
  go_wp2_with fail
  clear g0 g1
  refine (HClC.out _ _ HC.out).mono ?_
  rintro e w22 ⟨a5_, c5_, rfl, hd5, hb⟩
  have HBn : Hid (Below w21.heap.size w21 w22) := Lib.hid (hb)
  have HG_n := Lib.hid (HG.out.below HBn.out)
  have HV_n := Lib.hid (HV.out.below HBn.out (Nat.le_refl _))
  have HC_n := Lib.hid (HC.out.below HBn.out (Nat.le_refl _))
  have HR_n := Lib.hid (HR.out.below HBn.out (Nat.le_refl _))
  have HXX_n := Lib.hid (HXX.out.below HBn.out (Nat.le_refl _))
  have HYY_n := Lib.hid (HYY.out.below HBn.out (Nat.le_refl _))
  have HGG_n := Lib.hid (HGG.out.below HBn.out (Nat.le_refl _))
  have HB_n := Lib.hid (HB.out.trans (HBn.out.mono HB.out.size))
  clear HG HV HC HR HXX HYY HGG HB
  have HG := HG_n
  have HV := HV_n
  have HC := HC_n
  have HR := HR_n
  have HXX := HXX_n
  have HYY := HYY_n
  have HGG := HGG_n
  have HB := HB_n
  clear HG_n HV_n HC_n HR_n HXX_n HYY_n HGG_n HB_n HBn hb
  have HD5 := Lib.hid hd5
  clear hd5
  have g0 := HG.out.at0.1
  have g1 := HG.out.at0.2
  go_wp2_with fail
  clear g0 g1
  refine (HFa.out _ _ HD5.out).mono ?_
  rintro e w23 ⟨rfl, hb⟩
  have HBn : Hid (Below w22.heap.size w22 w23) := Lib.hid (hb)
  have HG_n := Lib.hid (HG.out.below HBn.out)
  have HV_n := Lib.hid (HV.out.below HBn.out (Nat.le_refl _))
  have HC_n := Lib.hid (HC.out.below HBn.out (Nat.le_refl _))
  have HR_n := Lib.hid (HR.out.below HBn.out (Nat.le_refl _))
  have HXX_n := Lib.hid (HXX.out.below HBn.out (Nat.le_refl _))
  have HYY_n := Lib.hid (HYY.out.below HBn.out (Nat.le_refl _))
  have HGG_n := Lib.hid (HGG.out.below HBn.out (Nat.le_refl _))
  have HD5_n := Lib.hid (HD5.out.below HBn.out (Nat.le_refl _))
  have HB_n := Lib.hid (HB.out.trans (HBn.out.mono HB.out.size))
  clear HG HV HC HR HXX HYY HGG HD5 HB
  have HG := HG_n
  have HV := HV_n
  have HC := HC_n
  have HR := HR_n
  have HXX := HXX_n
  have HYY := HYY_n
  have HGG := HGG_n
  have HD5 := HD5_n
  have HB := HB_n
  clear HG_n HV_n HC_n HR_n HXX_n HYY_n HGG_n HD5_n HB_n HBn hb
  have g0 := HG.out.at0.1
  have g1 := HG.out.at0.2
  go_wp2_with fail
  clear HD5
  clear g0 g1
  refine (HFr.out _ _ (rows1 (Blk.new _ _ _) (HR.out.alloc _))).mono ?_
  rintro e w24 ⟨rfl, hb⟩
  have HBn : Hid (Below w23.heap.size w23 w24) := Lib.hid (bl1 hb)
  have HG_n := Lib.hid (HG.out.below HBn.out)
  have HV_n := Lib.hid (HV.out.below HBn.out (Nat.le_refl _))
  have HC_n := Lib.hid (HC.out.below HBn.out (Nat.le_refl _))
  have HR_n := Lib.hid (HR.out.below HBn.out (Nat.le_refl _))
  have HXX_n := Lib.hid (HXX.out.below HBn.out (Nat.le_refl _))
  have HYY_n := Lib.hid (HYY.out.below HBn.out (Nat.le_refl _))
  have HGG_n := Lib.hid (HGG.out.below HBn.out (Nat.le_refl _))
  have HB_n := Lib.hid (HB.out.trans (HBn.out.mono HB.out.size))
  clear HG HV HC HR HXX HYY HGG HB
  have HG := HG_n
  have HV := HV_n
  have HC := HC_n
  have HR := HR_n
  have HXX := HXX_n
  have HYY := HYY_n
  have HGG := HGG_n
  have HB := HB_n
  clear HG_n HV_n HC_n HR_n HXX_n HYY_n HGG_n HB_n HBn hb
  have g0 := HG.out.at0.1
  have g1 := HG.out.at0.2
  go_wp2_with fail
  clear g0 g1
  refine (HLe.out _ _ HR.out).mono ?_
  rintro e w25 ⟨rfl, hb⟩
  have HBn : Hid (Below w24.heap.size w24 w25) := Lib.hid (hb)
  have HG_n := Lib.hid (HG.out.below HBn.out)
  have HV_n := Lib.hid (HV.out.below HBn.out (Nat.le_refl _))
  have HC_n := Lib.hid (HC.out.below HBn.out (Nat.le_refl _))
  have HR_n := Lib.hid (HR.out.below HBn.out (Nat.le_refl _))
  have HXX_n := Lib.hid (HXX.out.below HBn.out (Nat.le_refl _))
  have HYY_n := Lib.hid (HYY.out.below HBn.out (Nat.le_refl _))
  have HGG_n := Lib.hid (HGG.out.below HBn.out (Nat.le_refl _))
  have HB_n := Lib.hid (HB.out.trans (HBn.out.mono HB.out.size))
  clear HG HV HC HR HXX HYY HGG HB
  have HG := HG_n
  have HV := HV_n
  have HC := HC_n
  have HR := HR_n
  have HXX := HXX_n
  have HYY := HYY_n
  have HGG := HGG_n
  have HB := HB_n
  clear HG_n HV_n HC_n HR_n HXX_n HYY_n HGG_n HB_n HBn hb
  have g0 := HG.out.at0.1
  have g1 := HG.out.at0.2
  go_wp2_with fail
  clear g0 g1
  refine (HEx.out _ _ _ HXX.out HYY.out).mono ?_
  rintro e w26 ⟨rfl, hb⟩
  have HBn : Hid (Below w25.heap.size w25 w26) := Lib.hid (hb)
  have HG_n := Lib.hid (HG.out.below HBn.out)
  have HV_n := Lib.hid (HV.out.below HBn.out (Nat.le_refl _))
  have HC_n := Lib.hid (HC.out.below HBn.out (Nat.le_refl _))
  have HR_n := Lib.hid (HR.out.below HBn.out (Nat.le_refl _))
  have HXX_n := Lib.hid (HXX.out.below HBn.out (Nat.le_refl _))
  have HYY_n := Lib.hid (HYY.out.below HBn.out (Nat.le_refl _))
  have HGG_n := Lib.hid (HGG.out.below HBn.out (Nat.le_refl _))
  have HB_n := Lib.hid (HB.out.trans (HBn.out.mono HB.out.size))
  clear HG HV HC HR HXX HYY HGG HB
  have HG := HG_n
  have HV := HV_n
  have HC := HC_n
  have HR := HR_n
  have HXX := HXX_n
  have HYY := HYY_n
  have HGG := HGG_n
  have HB := HB_n
  clear HG_n HV_n HC_n HR_n HXX_n HYY_n HGG_n HB_n HBn hb
  have g0 := HG.out.at0.1
  have g1 := HG.out.at0.2
  go_wp2_with fail
  clear g0 g1
  refine (HEc.out _ _ _ HC.out HGG.out).mono ?_
  rintro e w27 ⟨rfl, hb⟩
  have HBn : Hid (Below w26.heap.size w26 w27) := Lib.hid (hb)
  have HG_n := Lib.hid (HG.out.below HBn.out)
  have HV_n := Lib.hid (HV.out.below HBn.out (Nat.le_refl _))
  have HC_n := Lib.hid (HC.out.below HBn.out (Nat.le_refl _))
  have HR_n := Lib.hid (HR.out.below HBn.out (Nat.le_refl _))
  have HXX_n := Lib.hid (HXX.out.below HBn.out (Nat.le_refl _))
  have HYY_n := Lib.hid (HYY.out.below HBn.out (Nat.le_refl _))
  have HGG_n := Lib.hid (HGG.out.below HBn.out (Nat.le_refl _))
  have HB_n := Lib.hid (HB.out.trans (HBn.out.mono HB.out.size))
  clear HG HV HC HR HXX HYY HGG HB
  have HG := HG_n
  have HV := HV_n
  have HC := HC_n
  have HR := HR_n
  have HXX := HXX_n
  have HYY := HYY_n
  have HGG := HGG_n
  have HB := HB_n
  clear HG_n HV_n HC_n HR_n HXX_n HYY_n HGG_n HB_n HBn hb
  have g0 := HG.out.at0.1
  have g1 := HG.out.at0.2
  go_wp2_with fail
  clear g0 g1
  refine (HAw.out _).mono ?_
  rintro e w28 ⟨rfl, hb⟩
  have HBn : Hid (Below w27.heap.size w27 w28) := Lib.hid (hb)
  have HG_n := Lib.hid (HG.out.below HBn.out)
  have HV_n := Lib.hid (HV.out.below HBn.out (Nat.le_refl _))
  have HC_n := Lib.hid (HC.out.below HBn.out (Nat.le_refl _))
  have HR_n := Lib.hid (HR.out.below HBn.out (Nat.le_refl _))
  have HXX_n := Lib.hid (HXX.out.below HBn.out (Nat.le_refl _))
  have HYY_n := Lib.hid (HYY.out.below HBn.out (Nat.le_refl _))
  have HGG_n := Lib.hid (HGG.out.below HBn.out (Nat.le_refl _))
  have HB_n := Lib.hid (HB.out.trans (HBn.out.mono HB.out.size))
  clear HG HV HC HR HXX HYY HGG HB
  have HG := HG_n
  have HV := HV_n
  have HC := HC_n
  have HR := HR_n
  have HXX := HXX_n
  have HYY := HYY_n
  have HGG := HGG_n
  have HB := HB_n
  clear HG_n HV_n HC_n HR_n HXX_n HYY_n HGG_n HB_n HBn hb
  have g0 := HG.out.at0.1
  have g1 := HG.out.at0.2
  go_wp2_with fail
  go_ret
  exact ⟨rfl, HB.out⟩

/-- THE LAW MirrorParts. -/
theorem mirrorParts_law (k n : Int) (v : Value) (l : List Int) (m : Int) (w : World) (h : Ints w v l) : Calls Try.prog 15 #[gV k n, v, .int .i64 m] w fun e w' => e = .returned (.bool true) ∧ Below w.heap.size w w' := by
  by_cases hG : ∃ g, g < 17 ∧ k = (kd g : Nat) ∧ n = (nm g : Nat) ∧ wordB g l = true
  · obtain ⟨g, hg, rfl, rfl, hw⟩ := hG
    by_cases hm : m < 0 ∨ ((2 ^ kM g : Nat) : Int) ≤ m
    · exact parts_out g hg v l m w h hw hm
    · obtain ⟨q, rfl⟩ := Int.eq_ofNat_of_zero_le (show 0 ≤ m by omega)
      exact parts_good g hg v l q w h hw (by omega)
  · exact parts_bad k n v l m w h (badCase hG)
end Go.Proofs.Ytlnbodpdgebflaa
