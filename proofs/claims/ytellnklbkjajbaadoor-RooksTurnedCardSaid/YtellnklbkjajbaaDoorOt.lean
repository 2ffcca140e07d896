/- other, Other, the reference's Other -/
import Derived.Test.YtellnklbkjajbaaDoorAw
namespace Go.Proofs.YtellnklbkjajbaaDoor
open Go.RowKit

/-- The first k elements of ys, and zeros. -/
def fillK (ys : List Nat) (k : Nat) : List Nat := ys.take k ++ List.replicate (ys.length - k) 0
theorem fillK_zero (ys : List Nat) : nats (fillK ys 0) = List.replicate ys.length 0 := by simp [fillK, nats]
theorem fillK_end (ys : List Nat) : fillK ys ys.length = ys := by simp [fillK]
theorem fillK_length (ys : List Nat) (k : Nat) (h : k ≤ ys.length) : (fillK ys k).length = ys.length := by simp [fillK]; omega
theorem fillK_set (ys : List Nat) (k : Nat) (h : k < ys.length) : (fillK ys k).set k (ys.getD k 0) = fillK ys (k + 1) := by
  have hl : (ys.take k).length = k := by rw [List.length_take]; omega
  unfold fillK
  rw [List.set_append_right _ _ (by omega), hl, Nat.sub_self, List.take_succ_eq_append_getElem h, List.append_assoc]
  obtain ⟨m, hm⟩ : ∃ m, ys.length - k = m + 1 := ⟨ys.length - k - 1, by omega⟩
  have hm' : ys.length - (k + 1) = m := by omega
  rw [hm, hm', List.replicate_succ, List.set_cons_zero]
  simp [h]

theorem natD_snoc (ys : List Nat) (k : Nat) (h : k < ys.length) : nats (ys.take (k + 1)) = nats (ys.take k) ++ [((ys.getD k 0 : Nat) : Int)] := by
  rw [List.take_succ_eq_append_getElem h]
  unfold nats
  rw [List.map_append]
  simp [h]
theorem nats_I64 {hs : List Nat} (h : ∀ x ∈ hs, x < 65536) : ∀ x ∈ nats hs, I64 x := by
  intro x hx
  obtain ⟨y, hy, rfl⟩ := List.mem_map.1 hx
  have := h y hy
  unfold I64; omega

/-- The board of all other squares. -/
def otherL (n : Nat) (bs : List Nat) : List Nat := bs.map fun r => sub (2 ^ n - 1) r
theorem otherL_length (n : Nat) (bs : List Nat) : (otherL n bs).length = bs.length := by simp [otherL]
theorem otherL_get {n : Nat} {bs : List Nat} {k : Nat} (h : k < bs.length) : (otherL n bs).getD k 0 = sub (2 ^ n - 1) (bs.getD k 0) := by simp [otherL, h]
theorem other_brd {n : Nat} {bs : List Nat} (h : Brd n bs) : Brd n (otherL n bs) :=
  ⟨by rw [otherL_length, h.len], h.pos, h.le, fun x hx => by obtain ⟨r, _, rfl⟩ := List.mem_map.1 hx; exact sub_le _ _ _ (by have := pw6 n h.le; omega)⟩
theorem andNot_full (n r : Nat) (hn : n ≤ 6) (hr : r < 64) : bits .andNot .i64 ((2:Int) ^ n - 1) (r:Int) = ((sub (2 ^ n - 1) r : Nat) : Int) := by
  have := pw6 n hn
  rw [show ((2:Int) ^ n - 1) = ((2 ^ n - 1 : Nat) : Int) by rw [← pw_cast]; omega]
  exact i64_andNot _ _ (by omega) (by omega)

set_option maxRecDepth 100000 in
set_option maxHeartbeats 1000000 in
theorem other_any (v : Value) (bs : List Nat) (n : Nat) (w : World) (hb : Brd n bs) (h : Nats w v bs) :
    Calls Tryd.prog 53 #[v] w fun e w' => e = .returned (.slice (some ⟨w.heap.size, 0, none⟩) n n) ∧ NatBlk w' w.heap.size (otherL n bs) ∧ Below w.heap.size w w' := by
  obtain ⟨ao, cap, rfl, h1, _, hx⟩ := h.open
  have HX := Lib.hid hx
  have hn := hb.le
  have hmk := run_make22 n n (Nat.le_refl _) (by omega)
  have HG := Lib.hid (fun k => Nat.lt_of_lt_of_le (hb.get k) (pw6 n hn).2)
  have HOl : Hid ((otherL n bs).length = n) := Lib.hid (by rw [otherL_length, hb.len])
  have HZ : Hid (List.replicate n (0:Int) = nats (fillK (otherL n bs) 0)) := Lib.hid (by rw [fillK_zero, HOl.out])
  have HOg : Hid (∀ k, k < n → (otherL n bs).getD k 0 = sub (2 ^ n - 1) (bs.getD k 0)) := Lib.hid fun k hk => otherL_get (by rw [hb.len]; exact hk)
  have HL := Lib.hid hb.len
  rw [HL.out] at h1 HX ⊢
  clear h hb hx
  go_enter Tryd.func53, Tryd.ntmps53
  go_wp2_with fail
  clear hmk
  go_loopw [11] (fun i wr => ∃ k : Nat, k ≤ n ∧ i = .int .i64 k ∧ NatBlk wr w.heap.size (fillK (otherL n bs) k) ∧ Below w.heap.size w wr) (fun i _ => n - (intOf i).toNat)
  case atStart => exact ⟨0, Nat.zero_le _, rfl, by rw [HZ.out]; exact NatBlk.start w _, (Below.refl _ _).alloc (Nat.le_refl _) _⟩
  case round =>
    obtain ⟨k, hk, rfl, hB, hb⟩ := hrel
    have HNB := Lib.hid hB
    have HB := Lib.hid hb
    clear hB hb
    by_cases hlt : k < n
    · obtain ⟨b, o, rfl, hck⟩ := HX.out k hlt
      have hck' := ck hck HB.out
      obtain ⟨hc, hfz⟩ := HNB.out.cell (k := k) (by rw [fillK_length _ _ (by rw [HOl.out]; exact hk), HOl.out]; exact hlt)
      have HC := Lib.hid (below_any n wr (by omega))
      have hand := andNot_full n (bs.getD k 0) hn (HG.out k)
      have HS : Hid (NatBlk (wr.setCell ⟨w.heap.size, k, none⟩ (.int .i64 (sub (2 ^ n - 1) (bs.getD k 0) : Nat))) w.heap.size (fillK (otherL n bs) (k + 1))) := Lib.hid (by
        rw [← fillK_set _ k (by rw [HOl.out]; exact hlt), HOg.out k hlt]; exact HNB.out.set k _)
      clear hck
      generalize (fillK (otherL n bs) k).getD k 0 = old at *
      generalize bs.getD k 0 = r at *
      generalize sub (2 ^ n - 1) r = s at *
      go_wp2_with fail
      refine HC.out.mono ?_
      rintro e w' ⟨rfl, rfl⟩
      go_wp2
      go_roundw
      case rel => exact ⟨k + 1, by omega, by go_num, HS.out, HB.out.setCell (Nat.le_refl _) _⟩
      case measure => simp [intOf]; omega
    · obtain rfl : k = n := by omega
      have HE : Hid (fillK (otherL k bs) k = otherL k bs) := Lib.hid (by have := fillK_end (otherL k bs); rwa [HOl.out] at this)
      rw [HE.out] at HNB
      go_wp2
      go_ret
      exact ⟨rfl, HNB.out, HB.out⟩

set_option maxHeartbeats 1000000 in
theorem Other_any (v : Value) (bs : List Nat) (n : Nat) (w : World) (hb : Brd n bs) (h : Nats w v bs) :
    Calls Tryd.prog 28 #[v] w fun e w' => e = .returned (.tuple #[.slice (some ⟨w.heap.size, 0, none⟩) n n, .int .i64 0]) ∧ NatBlk w' w.heap.size (otherL n bs) ∧ Below w.heap.size w w' := by
  have HB := Lib.hid (isBoard_any v (nats bs) w h)
  rw [boardB_mk hb] at HB
  have HR := Lib.hid (other_any v bs n w hb h)
  clear h hb
  go_enter Tryd.func28, Tryd.ntmps28
  go_wp2_with fail
  refine HB.out.mono ?_
  rintro e w' ⟨rfl, rfl⟩
  go_wp2_with fail
  refine HR.out.mono ?_
  rintro e w1 ⟨rfl, hI, hBl⟩
  have HI := Lib.hid hI
  have HBl := Lib.hid hBl
  clear hI hBl
  go_wp2
  go_ret2
  exact ⟨rfl, HI.out, HBl.out⟩

set_option maxHeartbeats 1000000 in
theorem Other_bad (v : Value) (xs : List Int) (w : World) (hb : boardB xs = false) (h : Ints w v xs) :
    Calls Tryd.prog 28 #[v] w fun e w' => e = .returned (.tuple #[.slice none 0 0, .int .i64 2]) ∧ w = w' := by
  have HB := Lib.hid (isBoard_any v xs w h)
  rw [hb] at HB
  clear h
  go_enter Tryd.func28, Tryd.ntmps28
  go_wp2_with fail
  refine HB.out.mono ?_
  rintro e w' ⟨rfl, rfl⟩
  go_wp2
  go_ret2
  exact ⟨rfl, rfl⟩

set_option maxRecDepth 100000 in
set_option maxHeartbeats 1000000 in
theorem rOther_any (v : Value) (bs : List Nat) (n : Nat) (w : World) (hb : Brd n bs) (h : Nats w v bs) :
    Calls Tryd.prog 29 #[v] w fun e w' => ∃ v', e = .returned v' ∧ Nats w' v' (otherL n bs) ∧ Below w.heap.size w w' := by
  obtain ⟨ao, cap, rfl, h1, _, hx⟩ := h.open
  have HX := Lib.hid hx
  have hn := hb.le
  have HG := Lib.hid (fun k => Nat.lt_of_lt_of_le (hb.get k) (pw6 n hn).2)
  have HOl : Hid ((otherL n bs).length = n) := Lib.hid (by rw [otherL_length, hb.len])
  have HOg : Hid (∀ k, k < n → (otherL n bs).getD k 0 = sub (2 ^ n - 1) (bs.getD k 0)) := Lib.hid fun k hk => otherL_get (by rw [hb.len]; exact hk)
  have HBr := Lib.hid (other_brd hb)
  have HL := Lib.hid hb.len
  obtain ⟨i0, hi, hz0, hz1, hz2⟩ := info_parts Tryd.info3
  have hpw := pw_bd n (by omega)
  have hwp := wrap_pw n (by omega)
  have hwp2 : wrap64 ((2:Int) ^ n - 1) = (2:Int) ^ n - 1 := wrap_in (by omega) (by omega)
  rw [HL.out] at h1 HX ⊢
  clear h hb hx hpw
  go_enter Tryd.func29, Tryd.ntmps29
  go_wp2_with fail
  go_loopw [3, 8] (fun s i wr => ∃ k : Nat, k ≤ n ∧ i = .int .i64 k ∧ wr.ownsRow w.heap.size 3 1 s (nats ((otherL n bs).take k)).length (ints (nats ((otherL n bs).take k))) ∧ Below w.heap.size w wr) (fun _ i _ => n - (intOf i).toNat)
  case atStart => exact ⟨0, Nat.zero_le _, rfl, World.ownsRow_nil _ _ _ _, Below.refl _ _⟩
  case round =>
    obtain ⟨k, hk, rfl, hB, hb⟩ := hrel
    have HO := Lib.hid hB
    have HB := Lib.hid hb
    obtain ⟨ao', c', rfl⟩ := owns_form hB
    clear hB hb
    by_cases hlt : k < n
    · obtain ⟨b, o, rfl, hck⟩ := HX.out k hlt
      have hck' := ck hck HB.out
      have hand := andNot_full n (bs.getD k 0) hn (HG.out k)
      have HS := Lib.hid (natD_snoc (otherL n bs) k (by rw [HOl.out]; exact hlt))
      rw [HOg.out k hlt] at HS
      have hll : (nats ((otherL n bs).take k)).length ≤ 16 := by rw [nats_length, List.length_take]; omega
      clear hck
      generalize bs.getD k 0 = r at *
      generalize sub (2 ^ n - 1) r = s at *
      generalize nats ((otherL n bs).take k) = tp at *
      go_wp2_with (at_builtin; refine wpList_append_own _ rfl _ _ 22 rfl w.heap.size 3 i0 (.int .i64 0) 1 8 Tryd.underlying22 hi hz0 hz1 hz2 rfl (by decide) _ _ _ rfl (HO.out.alloc _) ⟨wr.heap.size, 0, none⟩ 1 1 [.int .i64 s] rfl rfl (newOne _ _ _) (oneInt _) (by unfold maxLen; omega) (by omega) (by have := HB.out.size; simp; omega) ?_)
      intro v' w2 hown' hgrow _
      have HR := Lib.hid (int_step HO.out HB.out HB.out.size hown' hgrow)
      clear hown' hgrow
      go_wp2
      go_roundw
      case rel => exact ⟨k + 1, by omega, by go_num, by rw [HS.out]; exact HR.out.1, HR.out.2⟩
      case measure => simp [intOf]; omega
    · obtain rfl : k = n := by omega
      have HE : Hid ((otherL k bs).take k = otherL k bs) := Lib.hid (List.take_of_length_le (by rw [HOl.out]; exact Nat.le_refl _))
      have HV : Hid (Nats wr (.slice ao' (nats ((otherL k bs).take k)).length c') (otherL k bs)) := Lib.hid (by
        have h := HO.out
        rw [HE.out] at h ⊢
        exact Ints.of_owns h (by rw [nats_length, HOl.out]; omega) (nats_I64 fun x hx => Nat.lt_of_lt_of_le (HBr.out.lt x hx) (by have := pw6 k hn; omega)))
      go_wp2
      go_ret
      exact ⟨_, rfl, HV.out, HB.out⟩
end Go.Proofs.YtellnklbkjajbaaDoor
