/- other, Other, the reference's Other -/
import Derived.Test.YtdnhfnegnjdeoaaDoorRg
namespace Go.Proofs.YtdnhfnegnjdeoaaDoor
open Go.RowKit

/-- The first k elements of ys, and zeros. -/
def fillK (ys : List Nat) (k : Nat) : List Nat := ys.take k ++ List.replicate (ys.length - k) 0
theorem fillK_zero (ys : List Nat) : nats (fillK ys 0) = List.replicate ys.length 0 := by simp [fillK, nats]
theorem fillK_end (ys : List Nat) : fillK ys ys.length = ys := by simp [fillK]
theorem fillK_length (ys : List Nat) (k : Nat) (h : k ≤ ys.length) : (fillK ys k).length = ys.length := by simp [fillK]; omega
theorem fillK_set (ys : List Nat) (k : Nat) (h : k < ys.length) : (fillK ys k).set k (ys.getD k 0) = fillK ys (k + 1) := by
  have hl : (ys.take k).length = k := by rw [List.length_take]; omega
  unfold fillK
  rw [List.set_append_right _ _ (by omega), hl, Nat.sub_self, List.take_succ_eq_append_getElem h, List.append_assoc]
  obtain ⟨m, hm⟩ : ∃ m, ys.length - k = m + 1 := ⟨ys.length - k - 1, by omega⟩
  have hm' : ys.length - (k + 1) = m := by omega
  rw [hm, hm', List.replicate_succ, List.set_cons_zero]
  simp [h]

theorem natD_snoc (ys : List Nat) (k : Nat) (h : k < ys.length) : nats (ys.take (k + 1)) = nats (ys.take k) ++ [((ys.getD k 0 : Nat) : Int)] := by
  rw [List.take_succ_eq_append_getElem h]
  unfold nats
  rw [List.map_append]
  simp [h]
theorem nats_I64 {hs : List Nat} (h : ∀ x ∈ hs, x < 65536) : ∀ x ∈ nats hs, I64 x := by
  intro x hx
  obtain ⟨y, hy, rfl⟩ := List.mem_map.1 hx
  have := h y hy
  unfold I64; omega


theorem Gr.i64 {n : Nat} {bs : List Nat} (h : Gr n bs) : ∀ x ∈ nats bs, I64 x := nats_I64 fun x hx => Nat.lt_of_lt_of_le (h.lt x hx) (pw_nat n h.le).2
theorem NatBlk.gr {w : World} {g n : Nat} {bs : List Nat} (h : NatBlk w g bs) (hm : Gr n bs) : Nats w (.slice (some ⟨g, 0, none⟩) n n) bs := by
  have := h.nats (by rw [hm.len]; have := hm.le; omega) (fun x hx => Nat.lt_of_lt_of_le (hm.lt x hx) (pw_nat n hm.le).2)
  rwa [hm.len] at this
/-- The value of one node among the others. -/
def othN (n i x : Nat) : Nat := sub (2 ^ n - 1) (x ||| 2 ^ i)
theorem oth_getN {n : Nat} {bs : List Nat} {i : Nat} (h : i < n) : (oth n bs).getD i 0 = othN n i (bs.getD i 0) := oth_get h

set_option maxRecDepth 100000 in
set_option maxHeartbeats 1000000 in
theorem other_any (v : Value) (bs : List Nat) (n : Nat) (w : World) (hb : Gr n bs) (h : Nats w v bs) :
    Calls Tryd.prog 61 #[v] w fun e w' => e = .returned (.slice (some ⟨w.heap.size, 0, none⟩) n n) ∧ NatBlk w' w.heap.size (oth n bs) ∧ Below w.heap.size w w' := by
  obtain ⟨ao, cap, rfl, h1, hx⟩ := hb.open h
  have HX := Lib.hid hx
  have hn := hb.le
  have hmk := run_make22 n n (Nat.le_refl _) (by omega)
  have HG := Lib.hid (fun k => hb.get16 k)
  have HOl : Hid ((oth n bs).length = n) := Lib.hid (oth_length n bs)
  have HZ : Hid (List.replicate n (0:Int) = nats (fillK (oth n bs) 0)) := Lib.hid (by rw [fillK_zero, HOl.out])
  have HOg : Hid (∀ k, k < n → (oth n bs).getD k 0 = othN n k (bs.getD k 0)) := Lib.hid fun k hk => oth_getN hk
  have HC := Lib.hid (fun w => below_any n w hn)
  have hpwn := pw_bd n hn
  clear h hb hx
  go_enter Tryd.func61, Tryd.ntmps61
  go_wp2_with fail
  clear hmk
  go_loopw [11] (fun i wr => ∃ k : Nat, k ≤ n ∧ i = .int .i64 k ∧ NatBlk wr w.heap.size (fillK (oth n bs) k) ∧ Below w.heap.size w wr) (fun i _ => n - (intOf i).toNat)
  case atStart => exact ⟨0, Nat.zero_le _, rfl, by rw [HZ.out]; exact NatBlk.start w _, (Below.refl _ _).alloc (Nat.le_refl _) _⟩
  case round =>
    obtain ⟨k, hk, rfl, hB, hb⟩ := hrel
    have HNB := Lib.hid hB
    have HB := Lib.hid hb
    clear hB hb
    by_cases hlt : k < n
    · obtain ⟨b, o, rfl, hck⟩ := HX.out k hlt
      have hck' := ck hck HB.out
      obtain ⟨hc, hfz⟩ := HNB.out.cell (k := k) (by rw [fillK_length _ _ (by rw [HOl.out]; exact hk), HOl.out]; exact hlt)
      have hr := HG.out k
      have hpk := pw_nat k (by omega)
      have hpn := pw_nat n hn
      have hor : bits .or .i64 ((bs.getD k 0 : Nat) : Int) ((2:Int) ^ k) = ((bs.getD k 0 ||| 2 ^ k : Nat) : Int) := by rw [← pw_cast]; exact i64_or _ _ (by omega) (by omega)
      have hor16 : bs.getD k 0 ||| 2 ^ k < 2 ^ 17 := Nat.or_lt_two_pow (by omega) (by omega)
      have hand : bits .andNot .i64 ((2:Int) ^ n - 1) ((bs.getD k 0 ||| 2 ^ k : Nat) : Int) = ((othN n k (bs.getD k 0) : Nat) : Int) := by
        rw [show ((2:Int) ^ n - 1) = ((2 ^ n - 1 : Nat) : Int) by rw [← pw_cast]; omega]
        exact i64_andNot _ _ (by omega) (by omega)
      have hwp : IntKind.i64.wrap ((2:Int) ^ k) = (2:Int) ^ k := by rw [← pw_cast]; exact i64_of (by omega) (by omega)
      have HS : Hid (NatBlk ((wr.drew).setCell ⟨w.heap.size, k, none⟩ (.int .i64 (othN n k (bs.getD k 0) : Nat))) w.heap.size (fillK (oth n bs) (k + 1))) := Lib.hid (by
        rw [← fillK_set _ k (by rw [HOl.out]; exact hlt), HOg.out k hlt]; exact NatBlk.set (w := wr.drew) HNB.out k _)
      have hk16 : k ≤ 16 := by omega
      have hi0 : (0:Int) ≤ (k:Int) := by omega
      have hi1 : (k:Int) < (n:Int) := by omega
      clear hck hpk hpn hor16 hr hpwn
      generalize (fillK (oth n bs) k).getD k 0 = old at *
      generalize bs.getD k 0 = r at *
      generalize othN n k r = s at *
      generalize r ||| 2 ^ k = q at *
      go_wp2_with fail
      go_region_with (go_at_call 82; refine (HC.out _).mono ?_; rintro e w' ⟨rfl, rfl⟩)
      go_wp2_with fail
      go_roundw
      case rel => exact ⟨k + 1, by omega, by go_num, HS.out, (HB.out.drew).setCell (Nat.le_refl _) _⟩
      case measure => simp [intOf]; omega
    · obtain rfl : k = n := by omega
      have HE : Hid (fillK (oth k bs) k = oth k bs) := Lib.hid (by have := fillK_end (oth k bs); rwa [HOl.out] at this)
      rw [HE.out] at HNB
      go_wp2_with fail
      go_ret
      exact ⟨rfl, HNB.out, HB.out⟩

theorem Other_any (v : Value) (bs : List Nat) (n : Nat) (w : World) (hb : Gr n bs) (h : Nats w v bs) (hT : Tab w) :
    Calls Tryd.prog 19 #[v] w fun e w' => ∃ v', e = .returned (.tuple #[v', .int .i64 0]) ∧ Nats w' v' (oth n bs) ∧ Below w.heap.size w w' := by
  have HI := Lib.hid (isGraph_any v _ w h hT)
  rw [graphB_mk hb] at HI
  have HO := Lib.hid (fun w' (hb' : Below w.heap.size w w') => other_any v bs n w' hb (h.below hb' (Nat.le_refl _)))
  have HGr := Lib.hid (oth_gr hb)
  obtain ⟨ao, cap, rfl, _, _⟩ := hb.open h
  clear h hb hT
  go_enter Tryd.func19, Tryd.ntmps19
  go_wp2_with fail
  refine HI.out.mono ?_
  rintro e w1 ⟨rfl, hb1⟩
  go_wp2_with fail
  refine (HO.out w1 hb1).mono ?_
  rintro e w2 ⟨rfl, hN, hb2⟩
  have HN := Lib.hid hN
  have HB := Lib.hid (hb1.trans (hb2.mono hb1.size))
  clear hN hb1 hb2
  go_wp2_with fail
  go_ret2
  exact ⟨_, rfl, HN.out.gr HGr.out, HB.out⟩
theorem Other_bad (v : Value) (xs : List Int) (w : World) (h : Ints w v xs) (hg : graphB xs = false) (hT : Tab w) :
    Calls Tryd.prog 19 #[v] w fun e w' => e = .returned (.tuple #[.slice none 0 0, .int .i64 2]) ∧ Below w.heap.size w w' := by
  have HI := Lib.hid (isGraph_any v _ w h hT)
  rw [hg] at HI
  obtain ⟨ao, cap, rfl, _, _⟩ := h.open
  clear h hg hT
  go_enter Tryd.func19, Tryd.ntmps19
  go_wp2_with fail
  refine HI.out.mono ?_
  rintro e w1 ⟨rfl, hb1⟩
  have HB := Lib.hid hb1
  clear hb1
  go_wp2_with fail
  go_ret2
  exact ⟨rfl, HB.out⟩
end Go.Proofs.YtdnhfnegnjdeoaaDoor
