/- the reference's Double and Squares -/
import Derived.Test.YtopmdmafameknaaSq
import Derived.Test.YtopmdmafameknaaNr
namespace Go.Proofs.Ytopmdmafameknaa
open Go.RowKit

/-- Taking one from x and keeping what both have takes the lowest bit away. -/
theorem pop_kern (n x : Nat) (h0 : 0 < x) (h : x < 2 ^ n) : pop n (x &&& (x - 1)) + 1 = pop n x := by
  induction n generalizing x with
  | zero => simp at h; omega
  | succ n ih =>
    rw [pop_low, pop_low]
    have hd : (x &&& (x - 1)) / 2 = (x / 2) &&& ((x - 1) / 2) := by
      have := Nat.shiftRight_and_distrib (a := x) (b := x - 1) (i := 1)
      simpa [Nat.shiftRight_eq_div_pow] using this
    have hm : (x &&& (x - 1)) % 2 = 0 := by
      have h1 : (x &&& (x - 1)).testBit 0 = false := by
        rw [Nat.testBit_and, Nat.testBit_zero, Nat.testBit_zero]
        rcases Nat.mod_two_eq_zero_or_one x with e | e
        · simp [e]
        · have : (x - 1) % 2 = 0 := by omega
          simp [this]
      rw [Nat.testBit_zero] at h1
      rcases Nat.mod_two_eq_zero_or_one (x &&& (x - 1)) with e | e
      · exact e
      · rw [e] at h1; cases h1
    rw [hd, hm]
    rcases Nat.mod_two_eq_zero_or_one x with e | e
    · have e2 : (x - 1) / 2 = x / 2 - 1 := by omega
      have := ih (x / 2) (by omega) (by have : 2 ^ (n+1) = 2 * 2 ^ n := by rw [Nat.pow_succ]; omega
                                        omega)
      rw [e2, e]; omega
    · have e2 : (x - 1) / 2 = x / 2 := by omega
      rw [e2, Nat.and_self, e]; omega

theorem and_lt_one (x : Nat) (h : 0 < x) : x &&& (x - 1) < x := by
  have := Nat.and_le_right (n := x) (m := x - 1)
  omega

/-- The parity of what is left, and the sign so far. -/
def parB (x : Nat) : Bool := pop 16 x % 2 == 1
theorem parB_step (x : Nat) (h0 : 0 < x) (h : x < 65536) : parB x = !parB (x &&& (x - 1)) := by
  have := pop_kern 16 x h0 h
  unfold parB
  rw [← this]
  generalize pop 16 (x &&& (x - 1)) = p
  rcases Nat.mod_two_eq_zero_or_one p with e | e
  · rw [show (p + 1) % 2 = 1 by omega, e]; rfl
  · rw [show (p + 1) % 2 = 0 by omega, e]; rfl

set_option maxHeartbeats 1000000 in
set_option maxRecDepth 100000 in
theorem rDouble_any (k : Nat) (w : World) (hk4 : k ≤ 4) :
    Calls Try.prog 28 #[.int .i64 k] w fun e w' => e = .returned (.slice (some ⟨w.heap.size, 0, none⟩) (2 ^ k : Nat) (2 ^ k : Nat)) ∧ NatBlk w' w.heap.size (doubleS k) ∧ Below w.heap.size w w' := by
  have hn16 : 2 ^ k ≤ 16 := Nat.pow_le_pow_right (by decide) hk4
  have hmk := run_make22 (2 ^ k) (2 ^ k) (Nat.le_refl _) (by omega)
  have HZ : Hid (List.replicate (2 ^ k) (0:Int) = nats (plPart (2 ^ k) (2 ^ k) oddB 0 0)) := (plPart_zero _ _ _).symm
  have hpw : wrap64 (2 ^ k) = ((2 ^ k : Nat) : Int) := by rw [pw_cast]; exact wrap_pw k (by omega)
  have HTS : Hid (doubleS k = plantL (2 ^ k) oddB) := rfl
  generalize 2 ^ k = N at *
  go_enter Try.func28, Try.ntmps28
  go_wp2_with fail
  clear hmk hpw
  go_loopw [13] (fun i wr => ∃ k : Nat, k ≤ N ∧ i = .int .i64 k ∧ NatBlk wr w.heap.size (plPart N N oddB k 0) ∧ Below w.heap.size w wr) (fun i _ => N - (intOf i).toNat)
  case atStart => exact ⟨0, Nat.zero_le _, rfl, by rw [HZ.out]; exact NatBlk.start w _, (Below.refl _ _).alloc (Nat.le_refl _) _⟩
  case round =>
    obtain ⟨k, hk, rfl, hB, hb⟩ := hrel
    have HNB := Lib.hid hB
    have HB := Lib.hid hb
    clear hB hb
    by_cases hlt : k < N
    · go_wp2_with fail
      go_loopw [18] (fun i wr => ∃ l : Nat, l ≤ N ∧ i = .int .i64 l ∧ NatBlk wr w.heap.size (plPart N N oddB k l) ∧ Below w.heap.size w wr) (fun i _ => N - (intOf i).toNat)
      case atStart => exact ⟨0, Nat.zero_le _, rfl, HNB.out, HB.out⟩
      case round =>
        clear HNB HB
        obtain ⟨l, hl, rfl, hB, hb⟩ := hrel
        have HNB := Lib.hid hB
        have HB := Lib.hid hb
        clear hB hb
        by_cases hltl : l < N
        · have hand := i64_and k l (by omega) (by omega)
          have hal : k &&& l ≤ k := Nat.and_le_left
          have HP := Lib.hid (put_part HNB.out HB.out (Nat.le_refl _) hlt hltl hn16)
          have HO : Hid (oddB k l = parB (k &&& l)) := rfl
          have hlo : k &&& l < 65536 := by omega
          generalize k &&& l = x0 at *
          go_wp2_with fail
          go_loop [6, 7] (fun s x => ∃ (b : Bool) (y : Nat), y ≤ x0 ∧ s = .int .i64 (sgb b) ∧ x = .int .i64 y ∧ (b ^^ parB y) = parB x0) (fun _ x => (intOf x).toNat)
          case atStart => exact ⟨false, x0, Nat.le_refl _, rfl, rfl, by simp⟩
          case round =>
            obtain ⟨b, y, hy, rfl, rfl, hbp⟩ := hrel
            have HBP := Lib.hid hbp
            have hsb := sgb_bd b
            clear hbp
            by_cases hy0 : 0 < y
            · have h1 := i64_and y (y - 1) (by omega) (by omega)
              have hc1 : ((y - 1 : Nat) : Int) = (y : Int) - 1 := by omega
              rw [hc1] at h1
              have hlt1 := and_lt_one y hy0
              have hn : ((!b) ^^ parB (y &&& (y - 1))) = parB x0 := by
                rw [← HBP.out, parB_step y hy0 (by omega)]
                generalize parB (y &&& (y - 1)) = q
                cases b <;> cases q <;> rfl
              have HN := Lib.hid hn
              clear hn
              have hneg : -sgb b = sgb (!b) := by cases b <;> rfl
              have hnb := sgb_bd (!b)
              clear hc1
              generalize y &&& (y - 1) = z at *
              generalize hsbn : sgb (!b) = sn at *
              have HSN := Lib.hid hsbn
              clear hsbn
              generalize hsbo : sgb b = so at *
              clear hsbo
              go_wp2
              go_round
              case rel => exact ⟨!b, z, by omega, by rw [HSN.out], rfl, HN.out⟩
              case measure => simp [intOf]; omega
            · obtain rfl : y = 0 := by omega
              have hbe : b = parB x0 := by rw [← HBP.out]; cases b <;> rfl
              have hbe2 : sgb b = sgb (oddB k l) := by rw [HO.out, hbe]
              have HBE := Lib.hid hbe2
              clear hbe2
              rw [← HBE.out] at HP
              clear hbe
              generalize sgb b = so at *
              go_wp2_with fail
              refine HP.out.mono ?_
              rintro e w' ⟨rfl, hB', hb'⟩
              have HNB' := Lib.hid hB'
              have HB' := Lib.hid hb'
              clear hB' hb'
              go_wp2
              go_roundw
              case rel => exact ⟨l + 1, by omega, by go_num, HNB'.out, HB'.out⟩
              case measure => simp [intOf]; omega
        · obtain rfl : l = N := by omega
          have HE := Lib.hid (plPart_next l l oddB k)
          rw [HE.out] at HNB
          go_wp2
          go_roundw
          case rel => exact ⟨k + 1, by omega, by go_num, HNB.out, HB.out⟩
          case measure => simp [intOf]; omega
    · obtain rfl : k = N := by omega
      have HE : Hid (plPart k k oddB k 0 = plantL k oddB) := plPart_end k k _
      rw [HE.out, ← HTS.out] at HNB
      go_wp2
      go_ret
      exact ⟨rfl, HNB.out, HB.out⟩

theorem plPart_skip (n m : Nat) (f : Nat → Nat → Bool) (h : ∀ j, f 0 j = false) : plPart n m f 0 0 = plPart n m f 1 0 := by
  have h0 : ∀ m, mk m (f 0) = 0 := fun m => by
    induction m with
    | zero => rfl
    | succ m ih => rw [mk_no (h m), ih]
  refine List.map_congr_left fun a _ => ?_
  by_cases e : a = 0
  · subst e; rw [if_neg (by omega), if_pos rfl, if_pos (by omega), h0, h0]
  · rw [if_neg (by omega), if_neg e, if_neg (by omega)]
    split <;> simp [mk]
theorem sqF_zero (p i : Nat) (h : 0 < i) : sqF p i 0 = true := by unfold sqF; rw [decide_eq_true h]; rfl
theorem sqF_pos (p i j : Nat) (h : 0 < i) (hj : 0 < j) : sqF p i j = !sqB p ((j:Int) - i) := by unfold sqF; rw [decide_eq_true h, decide_eq_false (by omega)]; rfl

set_option maxHeartbeats 1000000 in
set_option maxRecDepth 100000 in
theorem rSquares_any (p : Nat) (w : World) (h0 : 1 ≤ p) (hp : p ≤ 11) :
    Calls Try.prog 29 #[.int .i64 p] w fun e w' => e = .returned (.slice (some ⟨w.heap.size, 0, none⟩) (p + 1) (p + 1)) ∧ NatBlk w' w.heap.size (squaresS p) ∧ Below w.heap.size w w' := by
  have hmk := run_make22 (p + 1) (p + 1) (Nat.le_refl _) (by omega)
  rw [show ((p + 1 : Nat) : Int) = (p : Int) + 1 by omega] at hmk
  have HZ : Hid (List.replicate (p + 1) (0:Int) = nats (plPart (p + 1) (p + 1) (sqF p) 1 0)) := by
    rw [← plPart_skip (p+1) (p+1) (sqF p) (fun j => rfl)]
    exact (plPart_zero _ _ _).symm
  have HTS : Hid (squaresS p = plantL (p + 1) (sqF p)) := rfl
  have hpz : ((p:Int) == 0) = false := by simp; omega
  go_enter Try.func29, Try.ntmps29
  go_wp2_with fail
  clear hmk
  go_loopw [4] (fun i wr => ∃ k : Nat, 1 ≤ k ∧ k ≤ p + 1 ∧ i = .int .i64 k ∧ NatBlk wr w.heap.size (plPart (p + 1) (p + 1) (sqF p) k 0) ∧ Below w.heap.size w wr) (fun i _ => p + 1 - (intOf i).toNat)
  case atStart => exact ⟨1, Nat.le_refl _, by omega, rfl, by rw [HZ.out]; exact NatBlk.start w _, (Below.refl _ _).alloc (Nat.le_refl _) _⟩
  case round =>
    obtain ⟨k, hk1, hk, rfl, hB, hb⟩ := hrel
    have HNB := Lib.hid hB
    have HB := Lib.hid hb
    clear hB hb
    by_cases hlt : k ≤ p
    · have HP0 := Lib.hid (put_part HNB.out HB.out (Nat.le_refl _) (show k < p + 1 by omega) (show 0 < p + 1 by omega) (by omega))
      rw [sqF_zero p k (by omega), show sgb true = -1 from rfl] at HP0
      go_wp2_with fail
      refine HP0.out.mono ?_
      rintro e w1 ⟨rfl, hB1, hb1⟩
      have HNB1 := Lib.hid hB1
      have HB1 := Lib.hid hb1
      clear hB1 hb1 HNB HB HP0
      go_wp2_with fail
      go_loopw [5] (fun i wr => ∃ l : Nat, 1 ≤ l ∧ l ≤ p + 1 ∧ i = .int .i64 l ∧ NatBlk wr w.heap.size (plPart (p + 1) (p + 1) (sqF p) k l) ∧ Below w.heap.size w wr) (fun i _ => p + 1 - (intOf i).toNat)
      case atStart => exact ⟨1, Nat.le_refl _, by omega, rfl, HNB1.out, HB1.out⟩
      case round =>
        clear HNB1 HB1
        obtain ⟨l, hl1, hl, rfl, hB, hb⟩ := hrel
        have HNB := Lib.hid hB
        have HB := Lib.hid hb
        clear hB hb
        by_cases hltl : l ≤ p
        · have HP := Lib.hid (put_part HNB.out HB.out (Nat.le_refl _) (show k < p + 1 by omega) (show l < p + 1 by omega) (by omega))
          rw [sqF_pos p k l (by omega) (by omega)] at HP
          go_wp2_with fail
          go_loop [6, 25] (fun s x => ∃ q : Nat, q ≤ p ∧ x = .int .i64 q ∧ s = .int .i64 (sgb (!sqA p ((l:Int) - k) q))) (fun _ x => p - (intOf x).toNat)
          case atStart => exact ⟨0, Nat.zero_le _, rfl, rfl⟩
          case round =>
            obtain ⟨q, hq, rfl, rfl⟩ := hrel
            by_cases hltq : q < p
            · have hb := kk_bd hltq hp
              have HT : Hid (sqT p ((l:Int) - k) q = (((q:Int) * q - ((l:Int) - k)).tmod p == 0)) := rfl
              have HS := Lib.hid (sqA_succ p ((l:Int) - k) q)
              generalize sqA p ((l:Int) - k) q = a at *
              cases hd : ((q:Int) * q - ((l:Int) - k)).tmod p == 0 with
              | true =>
                have HR : Hid (sgb (!sqA p ((l:Int) - k) (q+1)) = 1) := by
                  have : sqA p ((l:Int) - k) (q+1) = true := by rw [HS.out, HT.out, hd, Bool.or_true]
                  exact congrArg (fun b => sgb (!b)) this
                go_wp2
                go_round
                case rel => exact ⟨q + 1, by omega, by go_num, by rw [HR.out]⟩
                case measure => simp [intOf]; omega
              | false =>
                have HR : Hid (sgb (!sqA p ((l:Int) - k) (q+1)) = sgb (!a)) := by
                  have : sqA p ((l:Int) - k) (q+1) = a := by rw [HS.out, HT.out, hd, Bool.or_false]
                  exact congrArg (fun b => sgb (!b)) this
                generalize sgb (!a) = sa at *
                go_wp2
                go_round
                case rel => exact ⟨q + 1, by omega, by go_num, by rw [HR.out]⟩
                case measure => simp [intOf]; omega
            · obtain rfl : q = p := by omega
              have HQ : Hid (sqB q ((l:Int) - k) = sqA q ((l:Int) - k) q) := rfl
              rw [HQ.out] at HP
              generalize sgb (!sqA q ((l:Int) - k) q) = so at *
              go_wp2_with fail
              refine HP.out.mono ?_
              rintro e w' ⟨rfl, hB', hb'⟩
              have HNB' := Lib.hid hB'
              have HB' := Lib.hid hb'
              clear hB' hb'
              go_wp2
              go_roundw
              case rel => exact ⟨l + 1, by omega, by omega, by go_num, HNB'.out, HB'.out⟩
              case measure => simp [intOf]; omega
        · obtain rfl : l = p + 1 := by omega
          have HE := Lib.hid (plPart_next (p + 1) (p + 1) (sqF p) k)
          rw [HE.out] at HNB
          go_wp2
          go_roundw
          case rel => exact ⟨k + 1, by omega, by omega, by go_num, HNB.out, HB.out⟩
          case measure => simp [intOf]; omega
    · obtain rfl : k = p + 1 := by omega
      have HE : Hid (plPart (p + 1) (p + 1) (sqF p) (p + 1) 0 = plantL (p + 1) (sqF p)) := plPart_end (p + 1) (p + 1) _
      rw [HE.out, ← HTS.out] at HNB
      go_wp2
      go_ret
      exact ⟨rfl, HNB.out, HB.out⟩
end Go.Proofs.Ytopmdmafameknaa
