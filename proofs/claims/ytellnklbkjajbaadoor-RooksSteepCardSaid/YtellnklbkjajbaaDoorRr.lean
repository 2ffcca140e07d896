/- the reference's rooks -/
import Derived.Test.YtellnklbkjajbaaDoorGu
import Derived.Test.YtellnklbkjajbaaDoorCt
namespace Go.Proofs.YtellnklbkjajbaaDoor
open Go.RowKit

/-- A board's cells, none in block A. -/
def RB (w : World) (ao : Option Addr) (A : Nat) (bs : List Nat) : Prop := ∀ k, k < bs.length → ∃ b o, ao = some ⟨b, o, none⟩ ∧ b ≠ A ∧ w.cell? ⟨b, o + k, none⟩ = some (.int .i64 (bs.getD k 0 : Nat))
theorem RB.mod {w w' : World} {ao : Option Addr} {A : Nat} {bs : List Nat} (h : RB w ao A bs) (hm : Mod (· = A) w w') : RB w' ao A bs := fun k hk => by
  obtain ⟨b, o, e, hne, hc⟩ := h k hk
  exact ⟨b, o, e, hne, mod_cell hm (a := ⟨b, o + k, none⟩) hne hc⟩
theorem filter_range (p : Nat → Bool) (n : Nat) (h : ∀ i, n ≤ i → p i = false) : ∀ d, (List.range (n + d)).filter p = (List.range n).filter p
  | 0 => rfl
  | d + 1 => by
    rw [← Nat.add_assoc, List.range_succ, List.filter_append, filter_range p n h d]
    simp [h (n + d) (Nat.le_add_right _ _)]
theorem elems_range {n s : Nat} (hn : n ≤ 6) (hs : s < 2 ^ n) : elems s = (List.range n).filter fun j => s.testBit j := by
  obtain ⟨d, hd⟩ : ∃ d, 6 = n + d := ⟨6 - n, by omega⟩
  rw [elems, hd]
  exact filter_range _ n (fun i hi => Nat.testBit_lt_two_pow (Nat.lt_of_lt_of_le hs (Nat.pow_le_pow_right (by decide) hi))) d

/-- The rooks after j columns. -/
def rkJ (bs : List Nat) (i tk k : Nat) (vs : List Int) (j : Nat) : List Int :=
  ((List.range j).filter fun j => (sub (bs.getD i 0) tk).testBit j).foldl (fun v j => rk (bs.drop (i + 1)) (tk ||| 2 ^ j) (k + 1) v) (rk (bs.drop (i + 1)) tk k vs)
theorem rkJ_zero (bs : List Nat) (i tk k : Nat) (vs : List Int) : rkJ bs i tk k vs 0 = rk (bs.drop (i + 1)) tk k vs := rfl
theorem rkJ_succ (bs : List Nat) (i tk k : Nat) (vs : List Int) (j : Nat) : rkJ bs i tk k vs (j + 1) = if (sub (bs.getD i 0) tk).testBit j then rk (bs.drop (i + 1)) (tk ||| 2 ^ j) (k + 1) (rkJ bs i tk k vs j) else rkJ bs i tk k vs j := by
  unfold rkJ
  generalize sub (bs.getD i 0) tk = s
  rw [List.range_succ, List.filter_append, List.foldl_append]
  cases h : s.testBit j <;> simp [List.filter, h]
theorem rkJ_end {bs : List Nat} {n : Nat} (hb : Brd n bs) {i tk k : Nat} {vs : List Int} (hi : i < n) : rkJ bs i tk k vs n = rk (bs.drop i) tk k vs := by
  have hl := hb.len
  have e : bs[i]'(by omega) = bs.getD i 0 := by simp [show i < bs.length by omega]
  rw [List.drop_eq_getElem_cons (by omega : i < bs.length), rk, e, rkJ, ← elems_range hb.le (sub_le _ _ _ (hb.get i))]
theorem rkJ_length (bs : List Nat) (i tk k : Nat) (vs : List Int) (j : Nat) : (rkJ bs i tk k vs j).length = vs.length := by
  induction j with
  | zero => rw [rkJ_zero, rk_length]
  | succ j ih => rw [rkJ_succ]; split
                 · rw [rk_length, ih]
                 · exact ih

set_option maxHeartbeats 2000000 in
theorem rrooks_step (bs : List Nat) (n A i m tk k : Nat) (vs : List Int) (ao : Option Addr) (cap : Nat) (w : World) (hb : Brd n bs) (hi : i + (m + 1) = n) (hk : k ≤ i) (hv : vs.length = n + 1) (hI : IBlk w A vs) (hX : RB w ao A bs) (hcap : n ≤ cap) (htk : tk < 64)
    (IH : ∀ (tk k : Nat) (vs : List Int) (w : World), IBlk w A vs → RB w ao A bs → k ≤ i + 1 → vs.length = n + 1 → tk < 64 →
      Calls Tryd.prog 55 #[.slice ao n cap, .int .i64 ((i : Int) + 1), .int .i64 tk, .int .i64 k, .slice (some ⟨A, 0, none⟩) (n + 1) (n + 1)] w fun e w' => (∃ v, e = .returned v) ∧ IBlk w' A (rk (bs.drop (i + 1)) tk k vs) ∧ Mod (· = A) w w') :
    Calls Tryd.prog 55 #[.slice ao n cap, .int .i64 i, .int .i64 tk, .int .i64 k, .slice (some ⟨A, 0, none⟩) (n + 1) (n + 1)] w fun e w' => (∃ v, e = .returned v) ∧ IBlk w' A (rk (bs.drop i) tk k vs) ∧ Mod (· = A) w w' := by
  have hn6 := hb.le
  have hlen := hb.len
  have HIH := Lib.hid IH
  have HI1 := Lib.hid (IH tk k vs w hI hX (by omega) hv htk)
  have HX := Lib.hid hX
  have hne : ((i:Int) == (n:Int)) = false := by simp; omega
  have HE := Lib.hid (rkJ_end (tk := tk) (k := k) (vs := vs) hb (show i < n by omega))
  have HL := Lib.hid (fun j => rkJ_length bs i tk k vs j)
  rw [hv] at HL
  have hr : bs.getD i 0 < 64 := Nat.lt_of_lt_of_le (hb.get i) (pw6 n hn6).2
  have h0 := rkJ_zero bs i tk k vs
  clear IH hI hX hb
  go_enter Tryd.func55, Tryd.ntmps55
  go_wp2_with fail
  refine HI1.out.mono ?_
  rintro e w1 ⟨⟨rv, rfl⟩, hI1, hM1⟩
  rw [← h0] at hI1
  have HI := Lib.hid hI1
  have HM := Lib.hid hM1
  clear hI1 hM1 HI1 h0
  go_wp2_with fail
  go_loopw [30] (fun ii wr => ∃ j : Nat, j ≤ n ∧ ii = .int .i64 j ∧ IBlk wr A (rkJ bs i tk k vs j) ∧ Mod (· = A) w wr) (fun ii _ => n - (intOf ii).toNat)
  case atStart => exact ⟨0, Nat.zero_le _, rfl, HI.out, HM.out⟩
  case round =>
    obtain ⟨j, hj, rfl, hIr, hMr⟩ := hrel
    have HIr := Lib.hid hIr
    have HMr := Lib.hid hMr
    clear hIr hMr HI HM
    by_cases hlt : j < n
    · obtain ⟨b, o, rfl, hba, hcell⟩ := HX.out.mod HMr.out i (by omega)
      have hb1 := bit_and1 (bs.getD i 0) j (by omega)
      have hb2 := bit_and1 tk j (by omega)
      have HS := Lib.hid (rkJ_succ bs i tk k vs j)
      have HC : Hid (Calls Tryd.prog 55 #[.slice (some ⟨b, o, none⟩) n cap, .int .i64 ((i : Int) + 1), .int .i64 (tk ||| 2 ^ j : Nat), .int .i64 ((k : Int) + 1), .slice (some ⟨A, 0, none⟩) (n + 1) (n + 1)] wr fun e w' =>
          (∃ v, e = .returned v) ∧ IBlk w' A (rk (bs.drop (i + 1)) (tk ||| 2 ^ j) (k + 1) (rkJ bs i tk k vs j)) ∧ Mod (· = A) wr w') :=
        Lib.hid (HIH.out (tk ||| 2 ^ j) (k + 1) _ wr HIr.out (HX.out.mod HMr.out) (by omega) (HL.out j) (Nat.or_lt_two_pow (n := 6) htk (Nat.pow_lt_pow_right (by decide) (by omega))))
      have hp32 : 2 ^ j ≤ 32 := Nat.pow_le_pow_right (n := 2) (by decide) (show j ≤ 5 by omega)
      have hor : bits .or .i64 (tk:Int) ((2:Int) ^ j) = ((tk ||| 2 ^ j : Nat) : Int) := by rw [← pw_cast]; exact i64_or _ _ (by omega) (by omega)
      have hwp := wrap_pw j (by omega)
      have hj0 : (0:Int) ≤ (j:Int) := by omega
      rw [sub_bit] at HS
      clear HIH hp32
      generalize (bs.getD i 0) = r at *
      generalize tk ||| 2 ^ j = tk2 at *
      cases hrb : r.testBit j with
      | false =>
        rw [hrb] at hb1 HS
        have hb1' : bits .and .i64 ((r:Int) / 2 ^ j) 1 = 0 := hb1
        cases htb : tk.testBit j with
        | false =>
          rw [htb] at hb2
          have hb2' : bits .and .i64 ((tk:Int) / 2 ^ j) 1 = 0 := hb2
          clear hb1 hb2 hrb htb
          go_wp2_with fail
          go_roundw
          case rel => exact ⟨j + 1, by omega, by go_num, by rw [HS.out]; exact HIr.out, HMr.out⟩
          case measure => simp [intOf]; omega
        | true =>
          rw [htb] at hb2
          have hb2' : bits .and .i64 ((tk:Int) / 2 ^ j) 1 = 1 := hb2
          clear hb1 hb2 hrb htb
          go_wp2_with fail
          go_roundw
          case rel => exact ⟨j + 1, by omega, by go_num, by rw [HS.out]; exact HIr.out, HMr.out⟩
          case measure => simp [intOf]; omega
      | true =>
        rw [hrb] at hb1 HS
        have hb1' : bits .and .i64 ((r:Int) / 2 ^ j) 1 = 1 := hb1
        cases htb : tk.testBit j with
        | true =>
          rw [htb] at hb2 HS
          have hb2' : bits .and .i64 ((tk:Int) / 2 ^ j) 1 = 1 := hb2
          clear hb1 hb2 hrb htb
          go_wp2_with fail
          go_roundw
          case rel => exact ⟨j + 1, by omega, by go_num, by rw [HS.out]; exact HIr.out, HMr.out⟩
          case measure => simp [intOf]; omega
        | false =>
          rw [htb] at hb2 HS
          have hb2' : bits .and .i64 ((tk:Int) / 2 ^ j) 1 = 0 := hb2
          clear hb1 hb2 hrb htb
          go_wp2_with fail
          refine HC.out.mono ?_
          rintro e w2 ⟨⟨rv2, rfl⟩, hI2, hM2⟩
          have HI2 := Lib.hid hI2
          have HM2 := Lib.hid (HMr.out.trans hM2 fun _ h => .inl h)
          clear hI2 hM2 HC
          go_wp2_with fail
          go_roundw
          case rel => exact ⟨j + 1, by omega, by go_num, by rw [HS.out]; exact HI2.out, HM2.out⟩
          case measure => simp [intOf]; omega
    · obtain rfl : j = n := by omega
      rw [HE.out] at HIr
      go_wp2_with fail
      go_end0
      exact ⟨⟨_, rfl⟩, HIr.out, HMr.out⟩

set_option maxHeartbeats 400000 in
theorem rrooks_any (bs : List Nat) (n A : Nat) (ao : Option Addr) (cap : Nat) (hb : Brd n bs) (hcap : n ≤ cap) : ∀ (m i tk k : Nat) (vs : List Int) (w : World), i + m = n → k ≤ i → vs.length = n + 1 → IBlk w A vs → RB w ao A bs → tk < 64 →
    Calls Tryd.prog 55 #[.slice ao n cap, .int .i64 i, .int .i64 tk, .int .i64 k, .slice (some ⟨A, 0, none⟩) (n + 1) (n + 1)] w fun e w' => (∃ v, e = .returned v) ∧ IBlk w' A (rk (bs.drop i) tk k vs) ∧ Mod (· = A) w w' := by
  intro m
  induction m with
  | zero =>
    intro i tk k vs w hi hk hv hI _ _
    obtain rfl : i = n := by omega
    have hlen := hb.len
    obtain ⟨hc, hf⟩ := hI.cell (k := k) (by omega)
    have HR : Hid (IBlk (w.setCell ⟨A, k, none⟩ (.int .i64 (wrap64 (vs.getD k 0 + 1)))) A (rk (bs.drop i) tk k vs)) := Lib.hid (by
      rw [List.drop_eq_nil_of_le (by omega), rk]; exact hI.set k _)
    have hk0 : (0:Int) ≤ (k:Int) := by omega
    have hk1 : (k:Int) < (i:Int) + 1 := by omega
    clear hI hb
    generalize vs.getD k 0 = x at *
    go_enter Tryd.func55, Tryd.ntmps55
    go_wp2_with fail
    refine bodyPost_ret (results_none rfl _ _ _) rfl ?_
    exact ⟨⟨_, rfl⟩, HR.out, (Mod.refl (· = A) w).setCell (.inl rfl) _⟩
  | succ m ih => exact fun i tk k vs w hi hk hv hI hX htk => rrooks_step bs n A i m tk k vs ao cap w hb hi hk hv hI hX hcap htk fun tk' k' vs' w' h1 h2 h3 h4 h5 => ih (i + 1) tk' k' vs' w' (by omega) h3 h4 h1 h2 h5

set_option maxHeartbeats 400000 in
theorem rRooks_any (v : Value) (bs : List Nat) (n : Nat) (w : World) (hb : Brd n bs) (h : Nats w v bs) :
    Calls Tryd.prog 21 #[v] w fun e w' => ∃ A, e = .returned (.slice (some ⟨A, 0, none⟩) (n + 1) (n + 1)) ∧ w.heap.size ≤ A ∧ IBlk w' A (rookL bs) ∧ Below w.heap.size w w' := by
  obtain ⟨ao, cap, rfl, h1, _, hx⟩ := h.open
  have hl := hb.len
  have hn6 := hb.le
  have hmk : ∀ W : World, (Instr.makeSlice 22 (.int .i64 ((n:Int) + 1)) (.int .i64 ((n:Int) + 1))).run Tryd.prog W = .ok (.slice (some ⟨W.heap.size, 0, none⟩) (n + 1) (n + 1)) (W.alloc (.cells (ints (List.replicate (n + 1) 0)).toArray 3)) :=
    run_make22 (n + 1) (n + 1) (Nat.le_refl _) (by omega)
  have hI0 : IBlk (w.alloc (.cells (ints (List.replicate (n + 1) 0)).toArray 3)) w.heap.size (List.replicate (n + 1) 0) := heap_alloc_new w _
  have hB0 : Below w.heap.size w (w.alloc (.cells (ints (List.replicate (n + 1) 0)).toArray 3)) := (Below.refl _ _).alloc (Nat.le_refl _) _
  have hX : RB (w.alloc (.cells (ints (List.replicate (n + 1) 0)).toArray 3)) ao w.heap.size bs := fun k hk => by
    obtain ⟨b, o, e, hc⟩ := hx k hk
    have hlt := World.block_lt_of_cell? w _ hc
    exact ⟨b, o, e, by simp at hlt; omega, ck hc hB0⟩
  have HR := Lib.hid (rrooks_any bs n w.heap.size ao cap hb (by omega) n 0 0 0 (List.replicate (n + 1) 0) _ (by omega) (Nat.le_refl _) (by simp) hI0 hX (by decide))
  have HE : Hid (rk (bs.drop 0) 0 0 (List.replicate (n + 1) 0) = rookL bs) := Lib.hid (by unfold rookL; rw [hl]; rfl)
  rw [HE.out] at HR
  have HB0 := Lib.hid hB0
  rw [hl] at h1 ⊢
  clear hI0 hX hB0 hx h HE
  go_enter Tryd.func21, Tryd.ntmps21
  go_wp2_with fail
  clear hmk
  refine HR.out.mono ?_
  rintro e w2 ⟨⟨rv, rfl⟩, hI, hM⟩
  have HI := Lib.hid hI
  have hBw : Below w.heap.size w w2 := ⟨hM.os.trans HB0.out.os, hM.tape.trans HB0.out.tape, hM.output.trans HB0.out.output, Nat.le_trans HB0.out.size hM.size, fun j hj => (hM.block j (Nat.lt_of_lt_of_le hj HB0.out.size) (by omega)).trans (HB0.out.block j hj)⟩
  have HBw := Lib.hid hBw
  clear hI hM hBw HR
  go_wp2
  go_ret
  exact ⟨_, rfl, Nat.le_refl _, HI.out, HBw.out⟩
end Go.Proofs.YtellnklbkjajbaaDoor
