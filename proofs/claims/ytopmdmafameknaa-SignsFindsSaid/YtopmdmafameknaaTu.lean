/- turned -/
import Derived.Test.YtopmdmafameknaaBm
namespace Go.Proofs.Ytopmdmafameknaa
open Go.RowKit

/-- The first n bits of an int. -/
def lowN (n : Nat) (c : Int) : Nat := (c % 18446744073709551616).toNat % 2 ^ n
theorem lowN_lt (n : Nat) (c : Int) : lowN n c < 2 ^ n := Nat.mod_lt _ (Nat.two_pow_pos n)
theorem ofInt64 (c : Int) : (BitVec.ofInt 64 c).toNat = (c % 18446744073709551616).toNat := by
  rw [BitVec.toNat_ofInt]; rfl
theorem and_low (n : Nat) (c : Int) (hn : n ≤ 16) : bits .and .i64 c (2 ^ n - 1) = (lowN n c : Int) := by
  have hp := pw_nat n hn
  have hlt := lowN_lt n c
  show IntKind.i64.wrap ((BitVec.ofInt 64 c &&& BitVec.ofInt 64 ((2:Int) ^ n - 1)).toNat : Int) = _
  rw [← pw_cast, show ((2 ^ n : Nat) : Int) - 1 = ((2 ^ n - 1 : Nat) : Int) by omega, BitVec.toNat_and, bv64 (by omega), ofInt64, Nat.and_two_pow_sub_one_eq_mod]
  exact i64_of (by omega) (by unfold lowN at hlt; omega)
theorem and_one (x : Int) : bits .and .i64 x 1 = (((x % 18446744073709551616).toNat % 2 : Nat) : Int) := by
  have := and_low 1 x (by decide)
  simpa [lowN] using this
/-- Whether bit i of an int is set, as the program asks it. -/
def bitI (r : Int) (i : Nat) : Bool := bits .and .i64 (r / 2 ^ i) 1 == 1

def turnF (n : Nat) (hs : List Nat) (r : Int) (c i : Nat) : Nat := (hs.getD i 0 ^^^ c) ^^^ (if bitI r i then 2 ^ n - 1 else 0)
def turnPart (n : Nat) (hs : List Nat) (r : Int) (c k : Nat) : List Nat := (List.range k).map (turnF n hs r c)
def turnL (n : Nat) (hs : List Nat) (r : Int) (c : Nat) : List Nat := turnPart n hs r c n
theorem turnPart_succ (n : Nat) (hs : List Nat) (r : Int) (c k : Nat) : turnPart n hs r c (k+1) = turnPart n hs r c k ++ [turnF n hs r c k] := by simp [turnPart, List.range_succ]
theorem turnPart_length (n : Nat) (hs : List Nat) (r : Int) (c k : Nat) : (turnPart n hs r c k).length = k := by simp [turnPart]
theorem turnL_get (n : Nat) (hs : List Nat) (r : Int) (c k : Nat) (h : k < n) : (turnL n hs r c).getD k 0 = turnF n hs r c k := by simp [turnL, turnPart, h]
theorem full_lt (n : Nat) : 2 ^ n - 1 < 2 ^ n := by have := Nat.two_pow_pos n; omega
theorem turnF_lt {n : Nat} {hs : List Nat} (hm : Mat n hs) (r : Int) (c i : Nat) (hc : c < 2 ^ n) : turnF n hs r c i < 2 ^ n := by
  refine xor_lt (xor_lt (hm.get i) hc) ?_
  split
  · exact full_lt n
  · exact Nat.two_pow_pos n
theorem turnL_mat {n : Nat} {hs : List Nat} (hm : Mat n hs) (r : Int) (c : Nat) (hc : c < 2 ^ n) : Mat n (turnL n hs r c) :=
  ⟨turnPart_length _ _ _ _ _, hm.pos, hm.le, fun x hx => by obtain ⟨i, _, rfl⟩ := List.mem_map.1 hx; exact turnF_lt hm r c i hc⟩
theorem nats_snoc (hs : List Nat) (x : Nat) : nats (hs ++ [x]) = nats hs ++ [(x:Int)] := by simp [nats]
theorem nats_I64 {hs : List Nat} (h : ∀ x ∈ hs, x < 65536) : ∀ x ∈ nats hs, I64 x := by
  intro x hx
  obtain ⟨y, hy, rfl⟩ := List.mem_map.1 hx
  have := h y hy
  unfold I64; omega

set_option maxHeartbeats 4000000 in
set_option maxRecDepth 100000 in
theorem turned_any (v : Value) (n : Nat) (hs : List Nat) (r c : Int) (w : World) (h : Nats w v hs) (hm : Mat n hs) :
    Calls Try.prog 55 #[v, .int .i64 r, .int .i64 c] w fun e w' => ∃ v', e = .returned v' ∧ Nats w' v' (turnL n hs r (lowN n c)) ∧ Below w.heap.size w w' := by
  obtain ⟨ao, cap, rfl, h1, hx⟩ := hm.open h
  have HX := Lib.hid hx
  have HG := Lib.hid hm.get
  have hn := hm.le
  have HM := Lib.hid hm
  obtain ⟨i0, hi, hz0, hz1, hz2⟩ := info_parts Try.info3
  have hpw := wrap_pw n hn
  have hpb := pw_bd n hn
  have hp16 := (pw_nat n hn).2
  have hpw2 : wrap64 (2 ^ n - 1) = 2 ^ n - 1 := wrap_in (by omega) (by omega)
  have hlow := and_low n c hn
  have hcl := lowN_lt n c
  generalize lowN n c = cl at *
  have HF : Hid (∀ x : Nat, x < 65536 → bits .xor .i64 (x:Int) ((2:Int) ^ n - 1) = ((x ^^^ (2 ^ n - 1) : Nat) : Int)) := fun x hx => xor_full x n hx hn
  clear h hx hm
  go_enter Try.func55, Try.ntmps55
  go_wp2_with fail
  go_loopw [7, 17] (fun s i wr => ∃ k : Nat, k ≤ n ∧ i = .int .i64 k ∧ wr.ownsRow w.heap.size 3 1 s (nats (turnPart n hs r cl k)).length (ints (nats (turnPart n hs r cl k))) ∧ Below w.heap.size w wr) (fun _ i _ => n - (intOf i).toNat)
  case atStart => exact ⟨0, Nat.zero_le _, rfl, World.ownsRow_nil _ _ _ _, Below.refl _ _⟩
  case round =>
    obtain ⟨k, hk, rfl, ho, hb⟩ := hrel
    have HO := Lib.hid ho
    have HB := Lib.hid hb
    clear ho hb
    by_cases hlt : k < n
    · obtain ⟨b, o, rfl, hck⟩ := HX.out k hlt
      have hck' := ck hck HB.out
      have hxl := HG.out k
      have hx1 := i64_xor (hs.getD k 0) cl (by omega) (by omega)
      have hxl2 := xor_lt hxl hcl
      have hx2 := HF.out (hs.getD k 0 ^^^ cl) (by omega)
      have HS := Lib.hid (turnPart_succ n hs r cl k)
      have hll : (nats (turnPart n hs r cl k)).length = k := by rw [nats_length, turnPart_length]
      have hll' : (nats (turnPart n hs r cl k)).length ≤ 16 := by omega
      have HT : Hid (turnF n hs r cl k = (hs.getD k 0 ^^^ cl) ^^^ (if bitI r k then 2 ^ n - 1 else 0)) := rfl
      have HBi : Hid (bitI r k = (bits .and .i64 (r / 2 ^ k) 1 == 1)) := rfl
      clear hck hll
      generalize turnPart n hs r cl k = tp at *
      generalize hs.getD k 0 = x at *
      cases hbi : bitI r k with
      | true =>
        have hd : (bits .and .i64 (r / 2 ^ k) 1 == 1) = true := by rw [← HBi.out]; exact hbi
        have HT' : Hid (turnF n hs r cl k = (x ^^^ cl) ^^^ (2 ^ n - 1)) := by rw [HT.out, hbi]; rfl
        clear hbi
        generalize (x ^^^ cl) ^^^ (2 ^ n - 1) = y at *
        generalize x ^^^ cl = z at *
        go_wp2_with (at_builtin; refine wpList_append_own _ rfl _ _ 22 rfl w.heap.size 3 i0 (.int .i64 0) 1 8 Try.underlying22 hi hz0 hz1 hz2 rfl (by decide) _ _ _ rfl (HO.out.alloc _) ⟨wr.heap.size, 0, none⟩ 1 1 [.int .i64 y] rfl rfl (newOne _ _ _) (oneInt _) (by unfold maxLen; omega) (by omega) (by have := HB.out.size; simp; omega) ?_)
        intro v' w2 hown' hgrow _
        have HR := Lib.hid (int_step HO.out HB.out HB.out.size hown' hgrow)
        clear hown' hgrow
        go_wp2
        go_roundw
        case rel => exact ⟨k + 1, by omega, by go_num, by rw [HS.out, HT'.out, nats_snoc]; exact HR.out.1, HR.out.2⟩
        case measure => simp [intOf]; omega
      | false =>
        have hd : (bits .and .i64 (r / 2 ^ k) 1 == 1) = false := by rw [← HBi.out]; exact hbi
        have HT' : Hid (turnF n hs r cl k = x ^^^ cl) := HT.out.trans (by rw [hbi]; simp)
        clear hbi
        generalize x ^^^ cl = z at *
        go_wp2_with (at_builtin; refine wpList_append_own _ rfl _ _ 22 rfl w.heap.size 3 i0 (.int .i64 0) 1 8 Try.underlying22 hi hz0 hz1 hz2 rfl (by decide) _ _ _ rfl (HO.out.alloc _) ⟨wr.heap.size, 0, none⟩ 1 1 [.int .i64 z] rfl rfl (newOne _ _ _) (oneInt _) (by unfold maxLen; omega) (by omega) (by have := HB.out.size; simp; omega) ?_)
        intro v' w2 hown' hgrow _
        have HR := Lib.hid (int_step HO.out HB.out HB.out.size hown' hgrow)
        clear hown' hgrow
        go_wp2
        go_roundw
        case rel => exact ⟨k + 1, by omega, by go_num, by rw [HS.out, HT'.out, nats_snoc]; exact HR.out.1, HR.out.2⟩
        case measure => simp [intOf]; omega
    · obtain rfl : k = n := by omega
      have hll : (nats (turnPart k hs r cl k)).length = k := by rw [nats_length, turnPart_length]
      have HV : Hid (Nats wr u7 (turnL k hs r cl)) := Ints.of_owns HO.out (by omega) (nats_I64 fun x hx => Nat.lt_of_lt_of_le ((turnL_mat HM.out r cl hcl).lt x hx) hp16)
      go_wp2
      go_ret
      exact ⟨_, rfl, HV.out, HB.out⟩

/-- A turned row has the sum of the other sign. -/
theorem rowS_full (n x : Nat) : rowS n (x ^^^ (2 ^ n - 1)) = -rowS n x := by
  rw [rowS_sg, rowS_sg]
  rw [show -sumK (fun j => sg x j) n = -1 * sumK (fun j => sg x j) n by omega, ← sumK_mul]
  refine sumK_congr fun j hj => ?_
  rw [sg_xor, sg_sgb (2 ^ n - 1), Nat.testBit_two_pow_sub_one, decide_eq_true hj]
  simp [sgb]
theorem bestC_turn (n : Nat) (hs : List Nat) (r : Int) (c d : Nat) : bestC n (turnL n hs r c) d n = bestC n hs (c ^^^ d) n := by
  unfold bestC
  refine sumK_congr fun i hi => ?_
  rw [turnL_get n hs r c i hi]
  unfold turnF
  split
  · rw [show (hs.getD i 0 ^^^ c) ^^^ (2 ^ n - 1) ^^^ d = (hs.getD i 0 ^^^ (c ^^^ d)) ^^^ (2 ^ n - 1) by rw [Nat.xor_assoc, Nat.xor_comm (2 ^ n - 1) d, ← Nat.xor_assoc, Nat.xor_assoc (hs.getD i 0)], rowS_full]
    unfold absI; omega
  · rw [Nat.xor_zero, Nat.xor_assoc]
theorem bestP_turn (n : Nat) (hs : List Nat) (r : Int) (c : Nat) (hn : n ≤ 16) (hc : c < 2 ^ n) : bestP n (turnL n hs r c) (2 ^ n) = bestP n hs (2 ^ n) := by
  refine Int.le_antisymm ?_ ?_
  · refine maxK_le _ (bestP_bd n _ hs hn).1 fun d hd => ?_
    rw [bestC_turn]
    exact maxK_ge (fun c => bestC n hs c n) (xor_lt hc hd)
  · refine maxK_le _ (bestP_bd n _ _ hn).1 fun d hd => ?_
    have := maxK_ge (fun c' => bestC n (turnL n hs r c) c' n) (xor_lt hc hd)
    rwa [bestC_turn, ← Nat.xor_assoc, Nat.xor_self, Nat.zero_xor] at this
theorem tot_le_best (n : Nat) (hs : List Nat) : totS n hs ≤ bestP n hs (2 ^ n) := by
  refine Int.le_trans ?_ (maxK_ge (fun c => bestC n hs c n) (Nat.two_pow_pos n))
  refine sumK_le fun i _ => ?_
  rw [Nat.xor_zero]
  unfold absI; omega
theorem best_le_sq (n : Nat) (hs : List Nat) : bestP n hs (2 ^ n) ≤ n * n := by
  refine maxK_le _ (Int.mul_nonneg (by omega) (by omega)) fun c _ => ?_
  show sumK _ n ≤ _
  rw [← sumK_const]
  refine sumK_le fun i _ => ?_
  have := pop_le n (hs.getD i 0 ^^^ c)
  unfold absI rowS; omega
theorem sumK_mod (F : Nat → Int) (a : Int) (k : Nat) (h : ∀ i, i < k → F i % 2 = a % 2) : sumK F k % 2 = (k * a) % 2 := by
  rw [← sumK_const]
  induction k with
  | zero => rfl
  | succ k ih => have := ih fun i hi => h i (by omega); have := h k (by omega); simp only [sumK]; omega
theorem best_mod (n : Nat) (hs : List Nat) (hn : n ≤ 16) : (bestP n hs (2 ^ n) - totS n hs) % 2 = 0 := by
  obtain ⟨c, _, e⟩ := maxK_get (fun c => bestC n hs c n) (Nat.two_pow_pos n) (fun c => (bestC_bd n n hs c hn hn).1)
  have h1 : bestC n hs c n % 2 = (n * n : Int) % 2 := sumK_mod _ _ _ fun i _ => by unfold absI rowS; omega
  have h2 : totS n hs % 2 = (n * n : Int) % 2 := sumK_mod _ _ _ fun i _ => by unfold rowS; omega
  have e' : bestP n hs (2 ^ n) = bestC n hs c n := e
  omega
end Go.Proofs.Ytopmdmafameknaa
