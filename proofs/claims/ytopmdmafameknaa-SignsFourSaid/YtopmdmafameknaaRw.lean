/- the reference's Words are the program's -/
import Derived.Test.YtopmdmafameknaaWo
namespace Go.Proofs.Ytopmdmafameknaa
open Go.RowKit

def cx (n x r : Nat) : Bool := x == r || x == (r ^^^ (2 ^ n - 1))
def rwX (n x : Nat) (hs : List Nat) : List Nat := List.replicate (hs.countP (cx n x)) x
def rwPart (n : Nat) (hs : List Nat) : Nat → List Nat
  | 0 => []
  | m+1 => rwPart n hs m ++ rwX n m hs
theorem rwX_yes {n x : Nat} {hs : List Nat} {j : Nat} (hj : j < hs.length) (h : cx n x (hs.getD j 0) = true) : rwX n x (hs.take (j+1)) = rwX n x (hs.take j) ++ [x] := by
  unfold rwX
  have hg : hs.getD j 0 = hs[j] := by simp [hj]
  rw [hg] at h
  rw [List.take_succ_eq_append_getElem hj, List.countP_append, List.countP_singleton, if_pos h, List.replicate_succ']
theorem rwX_no {n x : Nat} {hs : List Nat} {j : Nat} (hj : j < hs.length) (h : cx n x (hs.getD j 0) = false) : rwX n x (hs.take (j+1)) = rwX n x (hs.take j) := by
  unfold rwX
  have hg : hs.getD j 0 = hs[j] := by simp [hj]
  rw [hg] at h
  rw [List.take_succ_eq_append_getElem hj, List.countP_append, List.countP_singleton, if_neg (by rw [h]; decide)]; rfl
theorem rwX_length (n x : Nat) (hs : List Nat) : (rwX n x hs).length ≤ hs.length := by unfold rwX; rw [List.length_replicate]; exact List.countP_le_length
theorem rwPart_length (n : Nat) (hs : List Nat) (m : Nat) : (rwPart n hs m).length ≤ m * hs.length := by
  induction m with
  | zero => simp [rwPart]
  | succ m ih => have := rwX_length n m hs; simp only [rwPart, List.length_append, Nat.succ_mul]; omega
theorem rwPart_lt (n : Nat) (hs : List Nat) (m : Nat) : ∀ x ∈ rwPart n hs m, x < m := by
  induction m with
  | zero => intro x hx; simp [rwPart] at hx
  | succ m ih =>
    intro x hx
    rcases List.mem_append.1 hx with h | h
    · have := ih x h; omega
    · have := List.eq_of_mem_replicate h; omega
theorem rwPart_sorted (n : Nat) (hs : List Nat) (m : Nat) : (nats (rwPart n hs m)).Pairwise fun a b => a ≤ b := by
  induction m with
  | zero => exact List.Pairwise.nil
  | succ m ih =>
    simp only [rwPart, nats, List.map_append]
    refine List.pairwise_append.2 ⟨ih, ?_, ?_⟩
    · unfold rwX
      rw [List.map_replicate]
      exact List.pairwise_replicate.2 (.inr (Int.le_refl _))
    · intro a ha b hb
      obtain ⟨x, hx, rfl⟩ := List.mem_map.1 ha
      obtain ⟨y, hy, rfl⟩ := List.mem_map.1 hb
      have := rwPart_lt n hs m x hx
      have := List.eq_of_mem_replicate hy
      omega
theorem rwPart_count (n : Nat) (hs : List Nat) (m x : Nat) : (rwPart n hs m).count x = if x < m then hs.countP (cx n x) else 0 := by
  induction m with
  | zero => simp [rwPart]
  | succ m ih =>
    rw [rwPart, List.count_append, ih]
    unfold rwX
    rw [List.count_replicate]
    by_cases e : m = x
    · subst e; simp
    · have hbq : (m == x) = false := by simp; exact e
      simp only [hbq, Bool.false_eq_true, if_false, Nat.add_zero]
      by_cases h : x < m
      · rw [if_pos h, if_pos (by omega)]
      · rw [if_neg h, if_neg (by omega)]
theorem allW_count (n : Nat) (hs : List Nat) (x : Nat) (hn : 1 ≤ n) : (allW n hs).count x = hs.countP (cx n x) := by
  unfold allW
  rw [List.count_append]
  induction hs with
  | nil => rfl
  | cons r t ih =>
    have hne : r ≠ r ^^^ (2 ^ n - 1) := by
      intro e
      have h := congrArg (fun y => y.testBit 0) e
      simp only [Nat.testBit_xor, Nat.testBit_two_pow_sub_one, decide_eq_true (show 0 < n by omega)] at h
      cases r.testBit 0 <;> simp at h
    rw [List.map_cons, List.count_cons, List.count_cons, List.countP_cons, ← ih]
    unfold cx
    by_cases h1 : r = x
    · subst h1
      have h2 : ¬ (r ^^^ (2 ^ n - 1)) = r := fun e => hne e.symm
      simp [h2]
      omega
    · by_cases h2 : r ^^^ (2 ^ n - 1) = x
      · subst h2
        simp [h1]
        omega
      · have h1' : ¬ x = r := fun e => h1 e.symm
        have h2' : ¬ x = r ^^^ (2 ^ n - 1) := fun e => h2 e.symm
        simp [h1, h2, h1', h2']
theorem sorted_perm {l1 l2 : List Int} (h1 : l1.Pairwise fun a b => a ≤ b) (h2 : l2.Pairwise fun a b => a ≤ b) (hp : l1.Perm l2) : l1 = l2 := by
  induction l1 generalizing l2 with
  | nil => exact (List.nil_perm.1 hp).symm
  | cons a t ih =>
    cases l2 with
    | nil => exact absurd hp.length_eq (by simp)
    | cons b u =>
      obtain ⟨ha, ht⟩ := List.pairwise_cons.1 h1
      obtain ⟨hb, hu⟩ := List.pairwise_cons.1 h2
      have hab : a = b := by
        have m1 : a ∈ b :: u := hp.mem_iff.1 (by simp)
        have m2 : b ∈ a :: t := hp.mem_iff.2 (by simp)
        rcases List.mem_cons.1 m1 with e | m1
        · exact e
        · rcases List.mem_cons.1 m2 with e | m2
          · exact e.symm
          · have := hb a m1; have := ha b m2; omega
      subst hab
      rw [ih ht hu (List.Perm.cons_inv hp)]
theorem rw_words (n : Nat) (hs : List Nat) (hm : Mat n hs) : nats (rwPart n hs (2 ^ n)) = wordsL n hs := by
  refine sorted_perm (rwPart_sorted n hs _) ?_ ?_
  · have := List.pairwise_mergeSort (le := fun (x y : Int) => decide (x ≤ y)) (fun a b c h1 h2 => by simp at *; omega) (fun a b => by simp; omega) (nats (allW n hs))
    exact this.imp fun h => by simpa using h
  · refine List.Perm.trans ?_ (List.mergeSort_perm _ _).symm
    refine List.Perm.map _ (List.perm_iff_count.2 fun x => ?_)
    rw [rwPart_count, allW_count n hs x hm.pos]
    split
    · rfl
    · rename_i h
      symm
      rw [List.countP_eq_zero]
      intro r hr hc
      have hr' := hm.lt r hr
      have hx := xor_lt hr' (full_lt n)
      unfold cx at hc
      simp at hc
      omega

set_option maxHeartbeats 1000000 in
set_option maxRecDepth 100000 in
theorem rWords_any (v : Value) (n : Nat) (hs : List Nat) (w : World) (h : Nats w v hs) (hm : Mat n hs) :
    Calls Try.prog 42 #[v] w fun e w' => ∃ v', e = .returned v' ∧ Ints w' v' (wordsL n hs) ∧ Below w.heap.size w w' := by
  have HRW := Lib.hid (rw_words n hs hm)
  have HI : Hid (∀ x ∈ wordsL n hs, I64 x) := fun x hx => nats_I64 (fun y hy => Nat.lt_of_lt_of_le (allW_lt hm y hy) (pw_nat n hm.le).2) x (wordsL_mem hx)
  have HWl := Lib.hid (wordsL_length n hs)
  obtain ⟨ao, cap, rfl, h1, hx⟩ := hm.open h
  have HX := Lib.hid hx
  have HG := Lib.hid hm.get
  have hn := hm.le
  have HHL := Lib.hid hm.len
  obtain ⟨i0, hi, hz0, hz1, hz2⟩ := info_parts Try.info3
  have hpb := pw_bd n hn
  have hp16 := (pw_nat n hn).2
  have hpw2 : wrap64 (2 ^ n - 1) = 2 ^ n - 1 := wrap_in (by omega) (by omega)
  have hpw := wrap_pw n hn
  have HPL := Lib.hid (fun m => rwPart_length n hs m)
  obtain ⟨N, hN⟩ : ∃ N, N = 2 ^ n := ⟨_, rfl⟩
  have HN := Lib.hid hN
  have hNi : (2:Int) ^ n = (N : Int) := by rw [hN, pw_cast]
  have hN16 : N ≤ 65536 := by omega
  have HAn : Hid (∀ x : Nat, x < N → bits .andNot .i64 ((N:Int) - 1) (x:Int) = ((x ^^^ (2 ^ n - 1) : Nat) : Int)) := fun x hx => by rw [← hNi]; exact andNot_full n x hn (by omega)
  rw [hNi] at hpw hpw2 hpb
  rw [← hN] at HG HRW
  clear h hx hm hN hp16
  go_enter Try.func42, Try.ntmps42
  go_wp2_with fail
  go_loopw [3, 10] (fun s i wr => ∃ k : Nat, k ≤ N ∧ i = .int .i64 k ∧ wr.ownsRow w.heap.size 3 1 s (nats (rwPart n hs k)).length (ints (nats (rwPart n hs k))) ∧ Below w.heap.size w wr) (fun _ i _ => N - (intOf i).toNat)
  case atStart => exact ⟨0, Nat.zero_le _, rfl, World.ownsRow_nil _ _ _ _, Below.refl _ _⟩
  case round =>
    obtain ⟨k, hk, rfl, ho, hb⟩ := hrel
    have HO := Lib.hid ho
    have HB := Lib.hid hb
    clear ho hb
    by_cases hlt : k < N
    · have HPk : Hid (rwPart n hs (k+1) = rwPart n hs k ++ rwX n k hs) := rfl
      have hpl := HPL.out k
      rw [HHL.out] at hpl
      have hpl2 : k * n ≤ 65536 * 16 := Nat.mul_le_mul (by omega) hn
      generalize rwPart n hs k = rp at *
      go_wp2_with fail
      go_loopw [3, 15] (fun s i wr => ∃ j : Nat, j ≤ n ∧ i = .int .i64 j ∧ wr.ownsRow w.heap.size 3 1 s (nats (rp ++ rwX n k (hs.take j))).length (ints (nats (rp ++ rwX n k (hs.take j)))) ∧ Below w.heap.size w wr) (fun _ i _ => n - (intOf i).toNat)
      case atStart => exact ⟨0, Nat.zero_le _, rfl, by simpa [rwX] using HO.out, HB.out⟩
      case round =>
        clear HO HB
        obtain ⟨j, hj, rfl, ho, hb⟩ := hrel
        have HO := Lib.hid ho
        have HB := Lib.hid hb
        clear ho hb
        by_cases hltj : j < n
        · obtain ⟨b, o, rfl, hck⟩ := HX.out j hltj
          have hck' := ck hck HB.out
          have hxl := HG.out j
          have hand := HAn.out (hs.getD j 0) hxl
          have HY := Lib.hid (fun h => rwX_yes (n := n) (x := k) (hs := hs) (j := j) (by rw [HHL.out]; exact hltj) h)
          have HNo := Lib.hid (fun h => rwX_no (n := n) (x := k) (hs := hs) (j := j) (by rw [HHL.out]; exact hltj) h)
          have HC : Hid (cx n k (hs.getD j 0) = (k == hs.getD j 0 || k == (hs.getD j 0 ^^^ (2 ^ n - 1)))) := rfl
          have hll : (nats (rp ++ rwX n k (hs.take j))).length ≤ 2000000 := by
            have := rwX_length n k (hs.take j)
            rw [List.length_take] at this
            rw [nats_length, List.length_append]; omega
          clear hck
          generalize rwX n k (hs.take j) = rx at *
          generalize hs.getD j 0 ^^^ (2 ^ n - 1) = y at *
          generalize hs.getD j 0 = x at *
          by_cases h1 : k = x
          · have hd : ((k:Int) == (x:Int)) = true := by simp; omega
            have HY' := Lib.hid (HY.out (by rw [HC.out]; simp [h1]))
            clear h1
            go_wp2_with (at_builtin; refine wpList_append_own _ rfl _ _ 22 rfl w.heap.size 3 i0 (.int .i64 0) 1 8 Try.underlying22 hi hz0 hz1 hz2 rfl (by decide) _ _ _ rfl (HO.out.alloc _) ⟨wr.heap.size, 0, none⟩ 1 1 [.int .i64 k] rfl rfl (newOne _ _ _) (oneInt _) (by unfold maxLen; omega) (by omega) (by have := HB.out.size; simp; omega) ?_)
            intro v' w2 hown' hgrow _
            have HR := Lib.hid (int_step HO.out HB.out HB.out.size hown' hgrow)
            clear hown' hgrow
            go_wp2
            go_roundw
            case rel => exact ⟨j + 1, by omega, by go_num, by rw [HY'.out, ← List.append_assoc, nats_snoc]; exact HR.out.1, HR.out.2⟩
            case measure => simp [intOf]; omega
          · have hd : ((k:Int) == (x:Int)) = false := by simp; omega
            by_cases h2 : k = y
            · have hd2 : ((k:Int) == (y:Int)) = true := by simp; omega
              have HY' := Lib.hid (HY.out (by rw [HC.out]; simp [h2]))
              clear h1 h2
              go_wp2_with (at_builtin; refine wpList_append_own _ rfl _ _ 22 rfl w.heap.size 3 i0 (.int .i64 0) 1 8 Try.underlying22 hi hz0 hz1 hz2 rfl (by decide) _ _ _ rfl (HO.out.alloc _) ⟨wr.heap.size, 0, none⟩ 1 1 [.int .i64 k] rfl rfl (newOne _ _ _) (oneInt _) (by unfold maxLen; omega) (by omega) (by have := HB.out.size; simp; omega) ?_)
              intro v' w2 hown' hgrow _
              have HR := Lib.hid (int_step HO.out HB.out HB.out.size hown' hgrow)
              clear hown' hgrow
              go_wp2
              go_roundw
              case rel => exact ⟨j + 1, by omega, by go_num, by rw [HY'.out, ← List.append_assoc, nats_snoc]; exact HR.out.1, HR.out.2⟩
              case measure => simp [intOf]; omega
            · have hd2 : ((k:Int) == (y:Int)) = false := by simp; omega
              have HN' := Lib.hid (HNo.out (by rw [HC.out]; simp [h1, h2]))
              clear h1 h2
              go_wp2
              go_roundw
              case rel => exact ⟨j + 1, by omega, by go_num, by rw [HN'.out]; exact HO.out, HB.out⟩
              case measure => simp [intOf]; omega
        · obtain rfl : n = j := by omega
          rw [List.take_of_length_le (by rw [HHL.out]; exact Nat.le_refl _), ← HPk.out] at HO
          go_wp2
          go_roundw
          case rel => exact ⟨k + 1, by omega, by go_num, HO.out, HB.out⟩
          case measure => simp [intOf]; omega
    · obtain rfl : N = k := by omega
      rw [HRW.out] at HO
      have hv := Ints.of_owns HO.out (by rw [HWl.out, HHL.out]; omega) HI.out
      have HV := Lib.hid hv
      clear hv
      go_wp2
      go_ret
      exact ⟨_, rfl, HV.out, HB.out⟩
end Go.Proofs.Ytopmdmafameknaa
