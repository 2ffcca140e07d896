/- stairs: stair, Stair, and the reference's Steps and Stair -/
import Derived.Test.YtellnklbkjajbaaDoorSv
namespace Go.Proofs.YtellnklbkjajbaaDoor
open Go.RowKit

/-- The board of a stair. -/
def stL (ls : List Nat) : List Nat := ls.map fun x => 2 ^ x - 1
theorem stL_length (ls : List Nat) : (stL ls).length = ls.length := by simp [stL]
theorem stL_get {ls : List Nat} {k : Nat} (h : k < ls.length) : (stL ls).getD k 0 = 2 ^ ls.getD k 0 - 1 := by simp [stL, h]
theorem stL_brd {n : Nat} {ls : List Nat} (h : Stp n ls) : Brd n (stL ls) :=
  ⟨by rw [stL_length, h.len], h.pos, h.le, fun x hx => by
    obtain ⟨r, hr, rfl⟩ := List.mem_map.1 hx
    have := Nat.pow_le_pow_right (n := 2) (by decide) (h.lt r hr)
    have := Nat.two_pow_pos r
    show 2 ^ r - 1 < 2 ^ n
    omega⟩

set_option maxRecDepth 100000 in
set_option maxHeartbeats 1000000 in
theorem stair_any (v : Value) (ls : List Nat) (n : Nat) (w : World) (hs : Stp n ls) (h : Nats w v ls) :
    Calls Tryd.prog 65 #[v] w fun e w' => e = .returned (.slice (some ⟨w.heap.size, 0, none⟩) n n) ∧ NatBlk w' w.heap.size (stL ls) ∧ Below w.heap.size w w' := by
  obtain ⟨ao, cap, rfl, h1, _, hx⟩ := h.open
  have HX := Lib.hid hx
  have hn := hs.le
  have hmk := run_make22 n n (Nat.le_refl _) (by omega)
  have HL6 : Hid (∀ k, k < n → ls.getD k 0 ≤ 6) := Lib.hid fun k hk => by have := hs.lt _ (natD_mem (hs := ls) (k := k) (by rw [hs.len]; exact hk)); omega
  have HOl : Hid ((stL ls).length = n) := Lib.hid (by rw [stL_length, hs.len])
  have HZ : Hid (List.replicate n (0:Int) = nats (fillK (stL ls) 0)) := Lib.hid (by rw [fillK_zero, HOl.out])
  have HOg : Hid (∀ k, k < n → (stL ls).getD k 0 = 2 ^ ls.getD k 0 - 1) := Lib.hid fun k hk => stL_get (by rw [hs.len]; exact hk)
  have HL := Lib.hid hs.len
  rw [HL.out] at h1 HX ⊢
  clear h hs hx
  go_enter Tryd.func65, Tryd.ntmps65
  go_wp2_with fail
  clear hmk
  go_loopw [11] (fun i wr => ∃ k : Nat, k ≤ n ∧ i = .int .i64 k ∧ NatBlk wr w.heap.size (fillK (stL ls) k) ∧ Below w.heap.size w wr) (fun i _ => n - (intOf i).toNat)
  case atStart => exact ⟨0, Nat.zero_le _, rfl, by rw [HZ.out]; exact NatBlk.start w _, (Below.refl _ _).alloc (Nat.le_refl _) _⟩
  case round =>
    obtain ⟨k, hk, rfl, hB, hb⟩ := hrel
    have HNB := Lib.hid hB
    have HB := Lib.hid hb
    clear hB hb
    by_cases hlt : k < n
    · obtain ⟨b, o, rfl, hck⟩ := HX.out k hlt
      have hck' := ck hck HB.out
      obtain ⟨hc, hfz⟩ := HNB.out.cell (k := k) (by rw [fillK_length _ _ (by rw [HOl.out]; exact hk), HOl.out]; exact hlt)
      have h6 := HL6.out k hlt
      have HC := Lib.hid (below_any (ls.getD k 0) wr (by omega))
      have HS : Hid (NatBlk (wr.setCell ⟨w.heap.size, k, none⟩ (.int .i64 ((2 ^ ls.getD k 0 - 1 : Nat) : Int))) w.heap.size (fillK (stL ls) (k + 1))) := Lib.hid (by
        rw [← fillK_set _ k (by rw [HOl.out]; exact hlt), HOg.out k hlt]; exact HNB.out.set k _)
      have hpe : (2:Int) ^ ls.getD k 0 - 1 = ((2 ^ ls.getD k 0 - 1 : Nat) : Int) := by
        rw [← pw_cast]
        have := Nat.two_pow_pos (ls.getD k 0)
        omega
      rw [hpe] at HC
      clear hck hpe
      generalize (fillK (stL ls) k).getD k 0 = old at *
      generalize ls.getD k 0 = r at *
      generalize 2 ^ r - 1 = s at *
      go_wp2_with fail
      refine HC.out.mono ?_
      rintro e w' ⟨rfl, rfl⟩
      go_wp2
      go_roundw
      case rel => exact ⟨k + 1, by omega, by go_num, HS.out, HB.out.setCell (Nat.le_refl _) _⟩
      case measure => simp [intOf]; omega
    · obtain rfl : k = n := by omega
      have HE : Hid (fillK (stL ls) k = stL ls) := Lib.hid (by have := fillK_end (stL ls); rwa [HOl.out] at this)
      rw [HE.out] at HNB
      go_wp2
      go_ret
      exact ⟨rfl, HNB.out, HB.out⟩

theorem NatBlk.brd {w : World} {g n : Nat} {hs : List Nat} (h : NatBlk w g hs) (hm : Brd n hs) : Nats w (.slice (some ⟨g, 0, none⟩) n n) hs := by
  have := h.nats (by rw [hm.len]; have := hm.le; omega) (fun x hx => Nat.lt_of_lt_of_le (hm.lt x hx) (by have := pw6 n hm.le; omega))
  rwa [hm.len] at this
set_option maxHeartbeats 1000000 in
theorem Stair_any (v : Value) (ls : List Nat) (n : Nat) (w : World) (hs : Stp n ls) (h : Nats w v ls) :
    Calls Tryd.prog 31 #[v] w fun e w' => ∃ v', e = .returned (.tuple #[v', .int .i64 0]) ∧ Nats w' v' (stL ls) ∧ Below w.heap.size w w' := by
  have HB := Lib.hid (areHeights_any v (nats ls) w h)
  rw [stepsB_mk hs] at HB
  have HR := Lib.hid (fun w' (hb : Below w.heap.size w w') => stair_any v ls n w' hs (h.below hb (Nat.le_refl _)))
  have HBr := Lib.hid (stL_brd hs)
  clear h hs
  go_enter Tryd.func31, Tryd.ntmps31
  go_wp2_with fail
  refine HB.out.mono ?_
  rintro e w1 ⟨rfl, hb1⟩
  have HB1 := Lib.hid hb1
  clear hb1
  go_wp2_with fail
  refine (HR.out w1 HB1.out).mono ?_
  rintro e w2 ⟨rfl, hI, hBl⟩
  have HI := Lib.hid hI
  have HBl := Lib.hid hBl
  clear hI hBl
  go_wp2
  go_ret2
  exact ⟨_, rfl, HI.out.brd HBr.out, HB1.out.trans (HBl.out.mono HB1.out.size)⟩
theorem Stair_bad (v : Value) (xs : List Int) (w : World) (hb : stepsB xs = false) (h : Ints w v xs) :
    Calls Tryd.prog 31 #[v] w fun e w' => e = .returned (.tuple #[.slice none 0 0, .int .i64 2]) ∧ Below w.heap.size w w' := by
  have HB := Lib.hid (areHeights_any v xs w h)
  rw [hb] at HB
  clear h
  go_enter Tryd.func31, Tryd.ntmps31
  go_wp2_with fail
  refine HB.out.mono ?_
  rintro e w1 ⟨rfl, hb1⟩
  have HB1 := Lib.hid hb1
  clear hb1
  go_wp2
  go_ret2
  exact ⟨rfl, HB1.out⟩

set_option maxHeartbeats 1000000 in
theorem Steps_any (v : Value) (xs : List Int) (w : World) (h : Ints w v xs) :
    Calls Tryd.prog 33 #[v] w fun e w' => e = .returned (.bool (stepsB xs)) ∧ w = w' := by
  obtain ⟨ao, cap, rfl, h1, h2, hx⟩ := h.open
  have HX := Lib.hid hx
  clear h hx
  go_enter Tryd.func33, Tryd.ntmps33
  go_wp2_with fail
  go_loop [7] (fun ii => ∃ k : Nat, k ≤ xs.length ∧ ii = .int .i64 k ∧ ∀ j, j < k → (0 ≤ xs.getD j 0 ∧ xs.getD j 0 ≤ xs.length) ∧ (0 < j → xs.getD (j - 1) 0 ≤ xs.getD j 0)) (fun ii => xs.length - (intOf ii).toNat)
  case atStart => exact ⟨0, Nat.zero_le _, rfl, fun j hj => absurd hj (Nat.not_lt_zero _)⟩
  case round =>
    obtain ⟨k, hk, rfl, hs⟩ := hrel
    by_cases hlt : k < xs.length
    · obtain ⟨b, o, rfl, hck⟩ := HX.out k hlt
      by_cases c : (0 ≤ xs.getD k 0 ∧ xs.getD k 0 ≤ xs.length) ∧ (0 < k → xs.getD (k - 1) 0 ≤ xs.getD k 0)
      · have HS : Hid (∀ j, j < k + 1 → (0 ≤ xs.getD j 0 ∧ xs.getD j 0 ≤ xs.length) ∧ (0 < j → xs.getD (j - 1) 0 ≤ xs.getD j 0)) := Lib.hid fun j hj => by
          by_cases e : j = k
          · subst e; exact c
          · exact hs j (by omega)
        obtain ⟨⟨c1, c2⟩, c3⟩ := c
        clear hs
        have c1' : ¬ (xs.getD k 0 < 0) := by omega
        have c2' : ¬ ((xs.length : Int) < xs.getD k 0) := by omega
        by_cases h0 : 0 < k
        · obtain ⟨b', o', e, hcp⟩ := HX.out (k - 1) (by omega)
          cases e
          have c3' := c3 h0
          obtain ⟨m, rfl⟩ : ∃ m, k = m + 1 := ⟨k - 1, by omega⟩
          simp only [Nat.add_sub_cancel] at hcp c3'
          have c3'' : ¬ (xs.getD (m + 1) 0 < xs.getD m 0) := by omega
          have hsub : ((m + 1 : Nat) : Int) - 1 = (m : Int) := by omega
          have hp0 : (0:Int) < ((m + 1 : Nat) : Int) := by omega
          have hm1 : (m : Int) < (xs.length : Int) := by omega
          have hlti : ((m + 1 : Nat) : Int) < (xs.length : Int) := by omega
          clear c1 c2 c3 c3' h0
          generalize xs.getD (m + 1) 0 = x1 at *
          generalize xs.getD m 0 = x0 at *
          go_wp2_with fail
          go_round
          case rel => exact ⟨m + 1 + 1, by omega, by go_num, HS.out⟩
          case measure => simp [intOf]; omega
        · obtain rfl : k = 0 := by omega
          rw [Nat.add_zero] at hck
          clear c1 c2 c3 h0
          generalize xs.getD 0 0 = x0 at *
          go_wp2_with fail
          go_round
          case rel => exact ⟨1, by omega, by go_num, HS.out⟩
          case measure => simp [intOf]; omega
      · have HR : Hid (stepsB xs = false) := Lib.hid (stepsB_bad hlt c)
        clear hs
        by_cases c1 : xs.getD k 0 < 0
        · clear c
          generalize xs.getD k 0 = x at *
          go_wp2_with fail
          go_ret
          exact ⟨ret_bool HR.out.symm, rfl⟩
        · by_cases c2 : (xs.length : Int) < xs.getD k 0
          · clear c
            generalize xs.getD k 0 = x at *
            go_wp2_with fail
            go_ret
            exact ⟨ret_bool HR.out.symm, rfl⟩
          · have h0 : 0 < k := Nat.pos_of_ne_zero fun e => c ⟨⟨by omega, by omega⟩, fun h => by omega⟩
            obtain ⟨b', o', e, hcp⟩ := HX.out (k - 1) (by omega)
            cases e
            obtain ⟨m, rfl⟩ : ∃ m, k = m + 1 := ⟨k - 1, by omega⟩
            simp only [Nat.add_sub_cancel] at hcp c
            have c3 : xs.getD (m + 1) 0 < xs.getD m 0 := Classical.byContradiction fun h => c ⟨⟨by omega, by omega⟩, fun _ => by omega⟩
            have hsub : ((m + 1 : Nat) : Int) - 1 = (m : Int) := by omega
            have hp0 : (0:Int) < ((m + 1 : Nat) : Int) := by omega
            have hm1 : (m : Int) < (xs.length : Int) := by omega
            have hlti : ((m + 1 : Nat) : Int) < (xs.length : Int) := by omega
            clear c h0
            generalize xs.getD (m + 1) 0 = x1 at *
            generalize xs.getD m 0 = x0 at *
            go_wp2_with fail
            go_ret
            exact ⟨ret_bool HR.out.symm, rfl⟩
    · obtain rfl : k = xs.length := by omega
      by_cases l1 : 1 ≤ xs.length
      · by_cases l6 : xs.length ≤ 6
        · have HR : Hid (stepsB xs = true) := Lib.hid (stepsB_good l1 l6 hs)
          clear hs
          go_wp2_with fail
          go_ret
          exact ⟨ret_bool (by rw [HR.out]; exact decide_eq_true (by omega)), rfl⟩
        · have HR : Hid (stepsB xs = false) := Lib.hid (stepsB_len (by omega))
          clear hs
          go_wp2_with fail
          go_ret
          exact ⟨ret_bool (by rw [HR.out]; exact decide_eq_false (by omega)), rfl⟩
      · have HR : Hid (stepsB xs = false) := Lib.hid (stepsB_len (by omega))
        clear hs
        go_wp2_with fail
        go_ret
        exact ⟨ret_bool (by rw [HR.out]), rfl⟩

set_option maxRecDepth 100000 in
set_option maxHeartbeats 1000000 in
theorem rStair_any (v : Value) (ls : List Nat) (n : Nat) (w : World) (hs : Stp n ls) (h : Nats w v ls) :
    Calls Tryd.prog 34 #[v] w fun e w' => ∃ v', e = .returned v' ∧ Nats w' v' (stL ls) ∧ Below w.heap.size w w' := by
  obtain ⟨ao, cap, rfl, h1, _, hx⟩ := h.open
  have HX := Lib.hid hx
  have hn := hs.le
  have HL6 : Hid (∀ k, k < n → ls.getD k 0 ≤ 6) := Lib.hid fun k hk => by have := hs.lt _ (natD_mem (hs := ls) (k := k) (by rw [hs.len]; exact hk)); omega
  have HOl : Hid ((stL ls).length = n) := Lib.hid (by rw [stL_length, hs.len])
  have HOg : Hid (∀ k, k < n → (stL ls).getD k 0 = 2 ^ ls.getD k 0 - 1) := Lib.hid fun k hk => stL_get (by rw [hs.len]; exact hk)
  have HBr := Lib.hid (stL_brd hs)
  have HL := Lib.hid hs.len
  obtain ⟨i0, hi, hz0, hz1, hz2⟩ := info_parts Tryd.info3
  rw [HL.out] at h1 HX ⊢
  clear h hs hx
  go_enter Tryd.func34, Tryd.ntmps34
  go_wp2_with fail
  go_loopw [3, 8] (fun s i wr => ∃ k : Nat, k ≤ n ∧ i = .int .i64 k ∧ wr.ownsRow w.heap.size 3 1 s (nats ((stL ls).take k)).length (ints (nats ((stL ls).take k))) ∧ Below w.heap.size w wr) (fun _ i _ => n - (intOf i).toNat)
  case atStart => exact ⟨0, Nat.zero_le _, rfl, World.ownsRow_nil _ _ _ _, Below.refl _ _⟩
  case round =>
    obtain ⟨k, hk, rfl, hB, hb⟩ := hrel
    have HO := Lib.hid hB
    have HB := Lib.hid hb
    obtain ⟨ao', c', rfl⟩ := owns_form hB
    clear hB hb
    by_cases hlt : k < n
    · obtain ⟨b, o, rfl, hck⟩ := HX.out k hlt
      have hck' := ck hck HB.out
      have HS := Lib.hid (natD_snoc (stL ls) k (by rw [HOl.out]; exact hlt))
      have h6 := HL6.out k hlt
      rw [HOg.out k hlt] at HS
      have hll : (nats ((stL ls).take k)).length ≤ 16 := by rw [nats_length, List.length_take]; omega
      have hwp := wrap_pw (ls.getD k 0) (by omega)
      have hpe : (2:Int) ^ ls.getD k 0 - 1 = ((2 ^ ls.getD k 0 - 1 : Nat) : Int) := by
        rw [← pw_cast]
        have := Nat.two_pow_pos (ls.getD k 0)
        omega
      have hp7 : 2 ^ ls.getD k 0 ≤ 64 := Nat.pow_le_pow_right (n := 2) (by decide) (show ls.getD k 0 ≤ 6 by omega)
      have hwp2 : wrap64 ((2:Int) ^ ls.getD k 0 - 1) = ((2 ^ ls.getD k 0 - 1 : Nat) : Int) := by rw [hpe]; exact wrap_in (by omega) (by omega)
      clear hck hpe hp7
      generalize ls.getD k 0 = r at *
      generalize 2 ^ r - 1 = s at *
      generalize nats ((stL ls).take k) = tp at *
      go_wp2_with (at_builtin; refine wpList_append_own _ rfl _ _ 22 rfl w.heap.size 3 i0 (.int .i64 0) 1 8 Tryd.underlying22 hi hz0 hz1 hz2 rfl (by decide) _ _ _ rfl (HO.out.alloc _) ⟨wr.heap.size, 0, none⟩ 1 1 [.int .i64 s] rfl rfl (newOne _ _ _) (oneInt _) (by unfold maxLen; omega) (by omega) (by have := HB.out.size; simp; omega) ?_)
      intro v' w2 hown' hgrow _
      have HR := Lib.hid (int_step HO.out HB.out HB.out.size hown' hgrow)
      clear hown' hgrow
      go_wp2
      go_roundw
      case rel => exact ⟨k + 1, by omega, by go_num, by rw [HS.out]; exact HR.out.1, HR.out.2⟩
      case measure => simp [intOf]; omega
    · obtain rfl : k = n := by omega
      have HE : Hid ((stL ls).take k = stL ls) := Lib.hid (List.take_of_length_le (by rw [HOl.out]; exact Nat.le_refl _))
      have HV : Hid (Nats wr (.slice ao' (nats ((stL ls).take k)).length c') (stL ls)) := Lib.hid (by
        have h := HO.out
        rw [HE.out] at h ⊢
        exact Ints.of_owns h (by rw [nats_length, HOl.out]; omega) (nats_I64 fun x hx => Nat.lt_of_lt_of_le (HBr.out.lt x hx) (by have := pw6 k hn; omega)))
      go_wp2
      go_ret
      exact ⟨_, rfl, HV.out, HB.out⟩
end Go.Proofs.YtellnklbkjajbaaDoor
