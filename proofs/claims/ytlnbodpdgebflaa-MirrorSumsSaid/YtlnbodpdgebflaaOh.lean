/- the law's helpers: letters, fine, awake; list, as the laws meet it -/
import Derived.Test.YtlnbodpdgebflaaOg
namespace Go.Proofs.Ytlnbodpdgebflaa
open Go.RowKit

/-- The letters of a word as a set. -/
def letS (l : List Nat) : Nat := l.foldl (fun s x => s ||| 2 ^ x) 0
theorem letS_snoc (l : List Nat) (x : Nat) : letS (l ++ [x]) = letS l ||| 2 ^ x := by simp [letS]
theorem letS_lt : ∀ (n : Nat) (l : List Nat), l.length = n → (∀ x ∈ l, x < 4) → letS l < 16 := by
  intro n
  induction n with
  | zero => intro l hl _; obtain rfl := List.eq_nil_of_length_eq_zero hl; decide
  | succ n ih =>
    intro l hl h
    have hne : l ≠ [] := by intro e; subst e; simp at hl
    rw [← List.dropLast_concat_getLast hne, letS_snoc]
    exact Nat.or_lt_two_pow (n := 4) (ih _ (by simp [hl]) fun x hx => h x (List.dropLast_subset l hx)) (Nat.pow_lt_pow_right (by decide) (h _ (List.getLast_mem hne)))

set_option maxHeartbeats 1000000 in
theorem letters_any (v : Value) (l : List Nat) (w : World) (h : Nats w v l) (h4 : ∀ x ∈ l, x < 4) : Calls Try.prog 60 #[v] w fun e w' => e = .returned (.int .i64 (letS l : Nat)) ∧ w = w' := by
  obtain ⟨ao, cap, rfl, h1, h2, hx⟩ := Nats.open h
  have HX := Lib.hid hx
  have H4 := Lib.hid h4
  clear h hx h4
  go_enter Try.func60, Try.ntmps60
  go_wp2
  go_loop [8, 3] (fun i s => ∃ k : Nat, k ≤ l.length ∧ i = .int .i64 k ∧ s = .int .i64 (letS (l.take k) : Nat)) (fun i _ => l.length - (intOf i).toNat)
  case atStart => exact ⟨0, Nat.zero_le _, rfl, rfl⟩
  case round =>
    obtain ⟨k, hk, rfl, rfl⟩ := hrel
    by_cases hlt : k < l.length
    · obtain ⟨b, o, rfl, hck⟩ := HX.out k hlt
      have hx4 := H4.out _ (natD_mem hlt)
      have hs16 := letS_lt _ (l.take k) rfl fun x hx => H4.out x (List.mem_of_mem_take hx)
      have HS : Hid (letS (l.take (k + 1)) = letS (l.take k) ||| 2 ^ l.getD k 0) := Lib.hid (by rw [natT_snoc' _ _ hlt, letS_snoc])
      generalize letS (l.take k) = z at *
      generalize l.getD k 0 = s at *
      have hp16 : 2 ^ s ≤ 8 := Nat.pow_le_pow_right (n := 2) (by decide) (show s ≤ 3 by omega)
      have hor : bits .or .i64 (z : Int) ((2:Int) ^ s) = ((z ||| 2 ^ s : Nat) : Int) := by rw [← pw_cast]; exact i64_or _ _ (by omega) (by omega)
      have hd3 : IntKind.i64.wrap ((2:Int) ^ s) = (2:Int) ^ s := by have := pw_bd s (by omega); exact i64_of (by omega) (by omega)
      clear hp16
      generalize z ||| 2 ^ s = z2 at *
      go_wp2
      go_round
      case rel => exact ⟨k + 1, by omega, by go_num, by rw [HS.out]⟩
      case measure => simp [intOf]; omega
    · obtain rfl : k = l.length := by omega
      rw [List.take_length]
      go_wp2
      go_ret
      exact ⟨rfl, rfl⟩

/-- fine, of words. -/
def fineB (k n : Int) (Ls : List (List Int)) : Prop := ∃ g, g < 17 ∧ k = (kd g : Nat) ∧ n = (nm g : Nat) ∧ Ls.all (wordB g) = true
set_option maxHeartbeats 2000000 in
theorem fine_any (g : Nat) (hg : g < 17) (v : Value) (Ls : List (List Int)) (w : World) (h : IntRows w v Ls) (h3 : Ls.length ≤ 1000) :
    Calls Try.prog 24 #[gV (kd g) (nm g), v] w fun e w' => e = .returned (.bool (Ls.all (wordB g))) ∧ Below w.heap.size w w' := by
  obtain ⟨ao, cap, rfl, h1, h2, hx⟩ := h.open
  have HX := Lib.hid hx
  have HG := Lib.hid (fun W => Valid_any (kd g) (nm g) W)
  rw [grp_kn hg] at HG
  have HW := Lib.hid (fun v l W h => Word_any g hg v l W h)
  clear h hx
  go_enter Try.func24, Try.ntmps24
  go_wp2_with fail
  refine (HG.out _).mono ?_
  rintro e w1 ⟨rfl, hb1⟩
  have HG1 : Hid (Blk 23 w1 w.heap.size #[.int .u8 (kd g), .int .i64 (nm g)]) := Lib.hid ((Blk.new _ _ _).below hb1)
  have HB1 : Hid (Below w.heap.size w w1) := Lib.hid ((a1 w _).trans (hb1.mono (by simp)))
  clear hb1 HG
  go_wp2_with fail
  go_loopw [12] (fun i wr => ∃ k : Nat, k ≤ Ls.length ∧ i = .int .i64 k ∧ (Ls.take k).all (wordB g) = true ∧ Blk 23 wr w.heap.size #[.int .u8 (kd g), .int .i64 (nm g)] ∧ Below w.heap.size w wr) (fun i _ => Ls.length - (intOf i).toNat)
  case atStart => exact ⟨0, Nat.zero_le _, rfl, rfl, HG1.out, HB1.out⟩
  case round =>
    clear HG1 HB1
    obtain ⟨k, hk, rfl, hl, hG, hb⟩ := hrel
    have HL := Lib.hid hl
    have HG := Lib.hid hG
    have HB := Lib.hid hb
    have g0 := hG.at0.1
    have g1 := hG.at0.2
    clear hl hG hb
    by_cases hlt : k < Ls.length
    · obtain ⟨l, hkl⟩ : ∃ l, Ls[k]? = some l := ⟨Ls[k], by simp [hlt]⟩
      obtain ⟨b, o, u, rfl, hck, hu⟩ := HX.out k l hkl
      have hck' := ck hck (W := w) (w1 := wr) HB.out
      have HU : Hid (Ints wr u l) := Lib.hid (hu.below HB.out (Nat.le_refl _))
      have HK := Lib.hid hkl
      obtain ⟨ua, uc, rfl, _, _, _⟩ := hu.open
      clear hck hu hkl
      go_wp2_with fail
      refine (HW.out _ _ _ HU.out).mono ?_
      rintro e w2 ⟨rfl, hb2⟩
      have HG2 := Lib.hid (HG.out.below hb2)
      have HB2 : Hid (Below w.heap.size w w2) := Lib.hid (HB.out.trans (hb2.mono HB.out.size))
      clear hb2
      cases hm : wordB g l with
      | true =>
        have HT2 := Lib.hid (all_take HK.out HL.out hm)
        clear hm
        go_wp2_with fail
        go_roundw
        case rel => exact ⟨k + 1, by omega, by go_num, HT2.out, HG2.out, HB2.out⟩
        case measure => simp [intOf]; omega
      | false =>
        have HE : Hid (Ls.all (wordB g) = false) := Lib.hid (List.all_eq_false.2 ⟨l, List.mem_of_getElem? HK.out, by rw [hm]; decide⟩)
        clear hm
        go_wp2_with fail
        go_ret
        exact ⟨ret_bool HE.out.symm, HB2.out⟩
    · obtain rfl : k = Ls.length := by omega
      have HA : Hid (Ls.all (wordB g) = true) := Lib.hid (by have := HL.out; rwa [List.take_length] at this)
      clear HL HW
      go_wp2_with fail
      go_ret
      exact ⟨ret_bool HA.out.symm, HB.out⟩
set_option maxHeartbeats 400000 in
theorem fine_none (k n : Int) (hk : grpB k n = false) (v : Value) (w : World) : Calls Try.prog 24 #[gV k n, v] w fun e w' => e = .returned (.bool false) ∧ Below w.heap.size w w' := by
  have HG := Lib.hid (fun W => Valid_any k n W)
  rw [hk] at HG
  clear hk
  go_enter Try.func24, Try.ntmps24
  go_wp2_with fail
  refine (HG.out _).mono ?_
  rintro e w1 ⟨rfl, hb1⟩
  have HB1 : Hid (Below w.heap.size w w1) := Lib.hid ((a1 w _).trans (hb1.mono (by simp)))
  clear hb1 HG
  go_wp2_with fail
  go_ret
  exact ⟨rfl, HB1.out⟩

theorem three_ints (W : World) (b : Nat) (x y z : Int) (h : Blk 3 W b #[.int .i64 x, .int .i64 y, .int .i64 z]) (hb : I64 x ∧ I64 y ∧ I64 z) : Ints W (.slice (some ⟨b, 0, none⟩) 3 3) [x, y, z] :=
  ⟨⟨_, 3, rfl, Nat.le_refl _, by simp [ints], by unfold maxLen; omega, .inr ⟨b, 0, rfl, h.lt, fun k u hk => by
    match k, hk with
    | 0, hk => simp [ints] at hk; subst hk; exact h.cell 0
    | 1, hk => simp [ints] at hk; subst hk; exact h.cell 1
    | 2, hk => simp [ints] at hk; subst hk; exact h.cell 2⟩⟩, fun u hu => by simp at hu; rcases hu with rfl | rfl | rfl; exact hb.1; exact hb.2.1; exact hb.2.2⟩
theorem one_ints (W : World) (b : Nat) (x : Int) (h : Blk 3 W b #[.int .i64 x]) (hb : I64 x) : Ints W (.slice (some ⟨b, 0, none⟩) 1 1) [x] :=
  ⟨⟨_, 1, rfl, Nat.le_refl _, by simp [ints], by unfold maxLen; omega, .inr ⟨b, 0, rfl, h.lt, fun k u hk => by
    match k, hk with
    | 0, hk => simp [ints] at hk; subst hk; exact h.cell 0⟩⟩, fun u hu => by simp at hu; subst hu; exact hb⟩

set_option maxHeartbeats 1000000 in
theorem awake_any (w : World) : Calls Try.prog 25 #[] w fun e w' => e = .returned (.bool true) ∧ Below w.heap.size w w' := by
  have HN : Hid (∀ v W, Ints W v [1, 1, 0] → Calls Try.prog 19 #[gV 65 2, v] W fun e w' => ∃ a c, e = .returned (.tuple #[.slice a 1 c, .int .i64 0]) ∧ Ints w' (.slice a 1 c) [0] ∧ Below W.heap.size W w') := Lib.hid (fun v W h => by
    have h1 := Normal_ok 1 (by decide) v [1, 1, 0] W h (by decide +kernel)
    have e1 : kd 1 = 65 := by decide +kernel
    have e2 : nm 1 = 2 := by decide +kernel
    have e3 : ln 1 (folI 1 [1, 1, 0]) = 1 := by decide +kernel
    have e4 : wd 1 (folI 1 [1, 1, 0]) = [0] := by decide +kernel
    rw [e1, e2, e3, e4] at h1
    exact h1)
  have HE := Lib.hid (fun v v' W h h' => equal_any v v' [0] [0] W h h')
  go_enter Try.func25, Try.ntmps25
  go_wp2_with fail
  refine (HN.out _ _ (three_ints _ _ _ _ _ (Blk.new _ _ _) (by unfold I64; omega))).mono ?_
  rintro e w1 ⟨a, c, rfl, hn, hb1⟩
  have HNn := Lib.hid hn
  have HB1 : Hid (Below w.heap.size w w1) := Lib.hid ((a1 w _).trans (hb1.mono (by simp)))
  clear hn hb1
  go_wp2_with fail
  refine (HE.out _ _ _ (HNn.out.alloc _) (one_ints _ _ _ (Blk.new _ _ _) (by unfold I64; omega))).mono ?_
  rintro e w2 ⟨rfl, hb2⟩
  have HB2 : Hid (Below w.heap.size w w2) := Lib.hid (HB1.out.trans (((a1 w1 _).trans (hb2.mono (by simp))).mono HB1.out.size))
  have hq : eqB [0] [0] = true := rfl
  clear hb2
  go_wp2_with fail
  go_ret
  exact ⟨rfl, HB2.out⟩
end Go.Proofs.Ytlnbodpdgebflaa
