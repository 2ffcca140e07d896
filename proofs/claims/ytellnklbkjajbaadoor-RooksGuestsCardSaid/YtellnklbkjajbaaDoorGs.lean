/- other of up to 8 rows; Guests -/
import Derived.Test.YtellnklbkjajbaaDoorGx
namespace Go.Proofs.YtellnklbkjajbaaDoor
open Go.RowKit Go.Shelf
attribute [local go_sem] Oper.semAt_some

theorem andNot_full8 (n r : Nat) (hn : n ≤ 8) (hr : r < 256) : bits .andNot .i64 ((2:Int) ^ n - 1) (r:Int) = ((sub (2 ^ n - 1) r : Nat) : Int) := by
  have : 2 ^ n ≤ 2 ^ 8 := Nat.pow_le_pow_right (by decide) hn
  have := Nat.two_pow_pos n
  rw [show ((2:Int) ^ n - 1) = ((2 ^ n - 1 : Nat) : Int) by rw [← pw_cast]; omega]
  exact i64_andNot _ _ (by omega) (by omega)

set_option maxRecDepth 100000 in
set_option maxHeartbeats 1000000 in
theorem other8_any (v : Value) (bs : List Nat) (n : Nat) (w : World) (hlen : bs.length = n) (hn : n ≤ 8) (hlt : ∀ k, bs.getD k 0 < 256) (h : Nats w v bs) :
    Calls Tryd.prog 53 #[v] w fun e w' => e = .returned (.slice (some ⟨w.heap.size, 0, none⟩) n n) ∧ NatBlk w' w.heap.size (otherL n bs) ∧ Below w.heap.size w w' := by
  obtain ⟨ao, cap, rfl, h1, _, hx⟩ := h.open
  have HX := Lib.hid hx
  have hmk := run_make22 n n (Nat.le_refl _) (by omega)
  have HG := Lib.hid hlt
  have HOl : Hid ((otherL n bs).length = n) := Lib.hid (by rw [otherL_length, hlen])
  have HZ : Hid (List.replicate n (0:Int) = nats (fillK (otherL n bs) 0)) := Lib.hid (by rw [fillK_zero, HOl.out])
  have HOg : Hid (∀ k, k < n → (otherL n bs).getD k 0 = sub (2 ^ n - 1) (bs.getD k 0)) := Lib.hid fun k hk => otherL_get (by rw [hlen]; exact hk)
  have HL := Lib.hid hlen
  rw [HL.out] at h1 HX ⊢
  clear h hx hlt
  go_enter Tryd.func53, Tryd.ntmps53
  go_wp2_with fail
  clear hmk
  go_loopw [11] (fun i wr => ∃ k : Nat, k ≤ n ∧ i = .int .i64 k ∧ NatBlk wr w.heap.size (fillK (otherL n bs) k) ∧ Below w.heap.size w wr) (fun i _ => n - (intOf i).toNat)
  case atStart => exact ⟨0, Nat.zero_le _, rfl, by rw [HZ.out]; exact NatBlk.start w _, (Below.refl _ _).alloc (Nat.le_refl _) _⟩
  case round =>
    obtain ⟨k, hk, rfl, hB, hb⟩ := hrel
    have HNB := Lib.hid hB
    have HB := Lib.hid hb
    clear hB hb
    by_cases hlt : k < n
    · obtain ⟨b, o, rfl, hck⟩ := HX.out k hlt
      have hck' := ck hck HB.out
      obtain ⟨hc, hfz⟩ := HNB.out.cell (k := k) (by rw [fillK_length _ _ (by rw [HOl.out]; exact hk), HOl.out]; exact hlt)
      have HC := Lib.hid (below_any n wr (by omega))
      have hand := andNot_full8 n (bs.getD k 0) hn (HG.out k)
      have HS : Hid (NatBlk (wr.setCell ⟨w.heap.size, k, none⟩ (.int .i64 (sub (2 ^ n - 1) (bs.getD k 0) : Nat))) w.heap.size (fillK (otherL n bs) (k + 1))) := Lib.hid (by
        rw [← fillK_set _ k (by rw [HOl.out]; exact hlt), HOg.out k hlt]; exact HNB.out.set k _)
      clear hck
      generalize (fillK (otherL n bs) k).getD k 0 = old at *
      generalize bs.getD k 0 = r at *
      generalize sub (2 ^ n - 1) r = s at *
      go_wp2_with fail
      refine HC.out.mono ?_
      rintro e w' ⟨rfl, rfl⟩
      go_wp2
      go_roundw
      case rel => exact ⟨k + 1, by omega, by go_num, HS.out, HB.out.setCell (Nat.le_refl _) _⟩
      case measure => simp [intOf]; omega
    · obtain rfl : k = n := by omega
      have HE : Hid (fillK (otherL k bs) k = otherL k bs) := Lib.hid (by have := fillK_end (otherL k bs); rwa [HOl.out] at this)
      rw [HE.out] at HNB
      go_wp2
      go_ret
      exact ⟨rfl, HNB.out, HB.out⟩

theorem guF_I64 (n m i tk : Nat) : I64 (guF n m i tk) := by
  cases m with
  | zero => unfold guF I64; omega
  | succ m =>
    unfold guF
    have : ∀ (l : List Nat) (k : Int), I64 k → I64 (l.foldl (fun k j => if seatB n i tk j then wrap64 (k + guF n m (i + 1) (tk ||| 2 ^ j)) else k) k) := by
      intro l
      induction l with
      | nil => exact fun k h => h
      | cons j l ih => exact fun k h => ih _ (by dsimp only; split <;> first | exact wrap_I64 _ | exact h)
    exact this _ 0 (by unfold I64; omega)

set_option maxRecDepth 100000 in
set_option maxHeartbeats 2000000 in
theorem Guests_any (n : Nat) (w : World) (h1 : 2 ≤ n) (hn : n ≤ 8) (hT : Tab w) :
    Calls Tryd.prog 40 #[.int .i64 n] w fun e w' => e = .returned (.tuple #[.int .i64 (guF n n 0 0), .int .i64 0]) ∧ Below w.heap.size w w' := by
  have hmk : ∀ W : World, (Instr.makeSlice 22 (.int .i64 (n:Int)) (.int .i64 (n:Int))).run Tryd.prog W = .ok (.slice (some ⟨W.heap.size, 0, none⟩) n n) (W.alloc (.cells (ints (List.replicate n 0)).toArray 3)) :=
    run_make22 n n (Nat.le_refl _) (by omega)
  have HZ : Hid (List.replicate n (0:Int) = nats (fillK (besL n) 0)) := Lib.hid (by rw [fillK_zero, besL_length])
  refine (callsIn_wide (n := 10)).1 ?_
  refine callsIn_of_wp_marks Tryd.func40 rfl trivial ?_ rfl
  simp only [Tryd.ntmps40, List.size_toArray, List.length_cons, List.length_nil, Nat.reduceAdd, Nat.reduceSub, Array.replicate_succ, Array.replicate_zero, List.push_toArray, List.append_toArray, List.nil_append, List.cons_append]
  gi_wp2_with fail
  refine wpIn_wide.2 ?_
  go_loopw [17] (fun ii wr => ∃ k : Nat, k ≤ n ∧ ii = .int .i64 k ∧ NatBlk wr w.heap.size (fillK (besL n) k) ∧ Below w.heap.size w wr) (fun ii _ => n - (intOf ii).toNat)
  case atStart => exact ⟨0, Nat.zero_le _, rfl, by rw [HZ.out]; exact NatBlk.start w _, (Below.refl _ _).alloc (Nat.le_refl _) _⟩
  case round =>
    obtain ⟨k, hk, rfl, hB, hb⟩ := hrel
    have HNB := Lib.hid hB
    have HB := Lib.hid hb
    clear hB hb hmk
    by_cases hlt : k < n
    · obtain ⟨hc, hfz⟩ := HNB.out.cell (k := k) (by rw [fillK_length _ _ (by rw [besL_length]; exact hk), besL_length]; exact hlt)
      have hmod : (((k:Int) + 1) % (n:Int)) = (((k + 1) % n : Nat) : Int) := by simp
      have hnz : ¬ (n:Int) = 0 := by omega
      have hnz' : ¬ n = 0 := by omega
      have hmz : ((n:Int) == 0) = false := by simp; omega
      have hrn : (k + 1) % n < n := Nat.mod_lt _ (by omega)
      have hwp := wrap_pw k (by omega)
      have hwp2 := wrap_pw ((k + 1) % n) (by omega)
      have e1 : 2 ^ k ≤ 128 := Nat.pow_le_pow_right (n := 2) (by decide) (show k ≤ 7 by omega)
      have e2 : 2 ^ ((k + 1) % n) ≤ 128 := Nat.pow_le_pow_right (n := 2) (by decide) (show (k + 1) % n ≤ 7 by omega)
      have hor : bits .or .i64 ((2:Int) ^ k) ((2:Int) ^ ((k + 1) % n)) = (((besL n).getD k 0 : Nat) : Int) := by
        rw [besL_get hlt, ← pw_cast, ← pw_cast]; exact i64_or _ _ (by omega) (by omega)
      have HS : Hid (NatBlk (wr.setCell ⟨w.heap.size, k, none⟩ (.int .i64 ((besL n).getD k 0 : Nat))) w.heap.size (fillK (besL n) (k + 1))) := Lib.hid (by
        rw [← fillK_set _ k (by rw [besL_length]; exact hlt)]; exact HNB.out.set k _)
      have hd1 : IntKind.i64.wrap ((k:Int) + 1) = (k:Int) + 1 := i64_of (by omega) (by omega)
      have hd2 : ((k:Int) + 1).tmod (n:Int) = (((k + 1) % n : Nat) : Int) := by rw [Int.tmod_eq_emod_of_nonneg (by omega), hmod]
      have hd3 : IntKind.i64.wrap ((2:Int) ^ k) = (2:Int) ^ k := by have := pw_bd k (by omega); exact i64_of (by omega) (by omega)
      have hd4 : IntKind.i64.wrap ((2:Int) ^ ((k + 1) % n)) = (2:Int) ^ ((k + 1) % n) := by have := pw_bd ((k + 1) % n) (by omega); exact i64_of (by omega) (by omega)
      clear e1 e2
      generalize (fillK (besL n) k).getD k 0 = old at *
      generalize (besL n).getD k 0 = b at *
      generalize (k + 1) % n = r at *
      go_wp2_with fail
      refine wp_region_noPanic ?_
      go_region_with (fail)
      refine NoPanic.normal ?_
      go_wp2_with fail
      go_roundw
      case rel => exact ⟨k + 1, by omega, by go_num, by first | exact HS.out | exact HS.out.below (Below.refl _ _).drew, by exact (HB.out.setCell (p := ⟨w.heap.size, k, none⟩) (Nat.le_refl _) _).drew⟩
      case measure => simp [intOf]; omega
    · obtain rfl : k = n := by omega
      have hbl := besL_length k
      have hN : NatBlk wr w.heap.size (besL k) := by
        have := HNB.out
        rw [show fillK (besL k) k = besL k by have := fillK_end (besL k); rwa [hbl] at this] at this
        exact this
      have hB1 : Below wr.heap.size wr (wr.alloc (.cells #[.int .i64 0] 3)) := (Below.refl _ _).alloc (Nat.le_refl _) _
      have hs1 : (wr.alloc (.cells #[.int .i64 0] 3)).heap.size = wr.heap.size + 1 := World.size_alloc _ _
      have hc1 : IBlk (wr.alloc (.cells #[.int .i64 0] 3)) wr.heap.size [0] := heap_alloc_new wr _
      have hbt := besL_lt h1 hn
      have hwr : w.heap.size < wr.heap.size := lt_of_block hN
      have h256 : ∀ x ∈ besL k, x < 256 := fun x hx => Nat.lt_of_lt_of_le (hbt x hx) (Nat.pow_le_pow_right (n := 2) (by decide) hn)
      have hNs : Nats (wr.alloc (.cells #[.int .i64 0] 3)) (.slice (some ⟨w.heap.size, 0, none⟩) k k) (besL k) := by
        have := (hN.below hB1).nats (by omega) (fun x hx => by have := h256 x hx; omega)
        rwa [hbl] at this
      have HO := Lib.hid (other8_any _ (besL k) k _ hbl hn (fun j => by
        by_cases hj : j < (besL k).length
        · exact h256 _ (natD_mem hj)
        · rw [getD_over (by omega)]; decide) hNs)
      rw [hs1] at HO
      have HC1 := Lib.hid (And.intro hc1 (And.intro hs1 (HB.out.trans (hB1.mono HB.out.size))))
      clear hN hB1 hs1 hc1 hNs HNB HB h256 HZ
      go_wp2_with fail
      gi_wp2_with fail
      refine ⟨trivial, (callsIn_wide.2 HO.out).mono ?_⟩
      rintro e w2 ⟨rfl, hN2, hB2⟩
      obtain ⟨hc1, hs1, hB1⟩ := HC1.out
      have HN2 := Lib.hid hN2
      have HB2 := Lib.hid hB2
      have HB1 := Lib.hid hB1
      have Hc1 := Lib.hid hc1
      clear hN2 hB2 HO HC1 hc1 hB1
      generalize (wr.alloc (.cells #[.int .i64 0] 3)) = w1 at *
      gi_wp2_with fail
      refine ⟨trivial, (callsIn_wide.2 (permutations_any _ _ _ _)).mono ?_⟩
      rintro e w' ⟨rfl, rfl⟩
      gi_wp2_with fail
      have hs2 : wr.heap.size + 1 < w2.heap.size := lt_of_block HN2.out
      have hcb := cell_new w2 (.slice (some ⟨wr.heap.size + 1, 0, none⟩) k k) 22
      have hB23 : Below w2.heap.size w2 (w2.alloc (.cells #[.slice (some ⟨wr.heap.size + 1, 0, none⟩) k k] 22)) := (Below.refl _ w2).alloc (Nat.le_refl _) _
      have hs3 : (w2.alloc (.cells #[.slice (some ⟨wr.heap.size + 1, 0, none⟩) k k] 22)).heap.size = w2.heap.size + 1 := World.size_alloc _ _
      have h13 : Below (wr.heap.size + 1) w1 (w2.alloc (.cells #[.slice (some ⟨wr.heap.size + 1, 0, none⟩) k k] 22)) := HB2.out.trans (hB23.mono (by omega))
      have c1 : IBlk (w2.alloc (.cells #[.slice (some ⟨wr.heap.size + 1, 0, none⟩) k k] 22)) wr.heap.size [0] := Hc1.out.mod (h13.block wr.heap.size (by omega))
      have hN3 : NatBlk (w2.alloc (.cells #[.slice (some ⟨wr.heap.size + 1, 0, none⟩) k k] 22)) (wr.heap.size + 1) (otherL k (besL k)) := HN2.out.below hB23
      have hB3 : Below w.heap.size w (w2.alloc (.cells #[.slice (some ⟨wr.heap.size + 1, 0, none⟩) k k] 22)) := HB1.out.trans (h13.mono (by omega))
      clear hB23 h13 HN2 HB2 HB1 Hc1
      generalize (w2.alloc (.cells #[.slice (some ⟨wr.heap.size + 1, 0, none⟩) k k] 22)) = w3 at *
      have hlt1 := tab_lt hT
      have hol : (otherL k (besL k)).length = k := by rw [otherL_length, hbl]
      have HIt := perms_iter (otherL k (besL k)) wr.heap.size w2.heap.size w3 (by omega) (by omega) (tab_block hT (hB3.block 1 hlt1)) (by rw [hol]; exact hcb) (Nat.le_refl _)
        (fun j hj => ⟨_, _, rfl, by omega, by have := (hN3.cell hj).1; simpa using this⟩) (by omega) (fun x hx => by
          obtain ⟨r, _, rfl⟩ := List.mem_map.1 hx
          exact sub_le (2 ^ k - 1) r 8 (by have : 2 ^ k ≤ 2 ^ 8 := Nat.pow_le_pow_right (by decide) hn; have := Nat.two_pow_pos k; omega)) (by rw [hol]; exact hn)
      rw [hol] at HIt
      have HG := Lib.hid (guests_count k h1 hn)
      have HB3 := Lib.hid hB3
      have hA3 : wr.heap.size < w3.heap.size := by omega
      clear hN3 hcb hbt hol hB3
      refine range_mine (n := 10) (gf := 78) (lb := #[.pointer (some ⟨w2.heap.size, 0, none⟩)]) rfl (enters_of Tryd.func78 (by kernel_rfl) rfl) HIt (fun _ => rfl) hA3 (fun x X l o o' h ho hp => hPreP _ _ _ x X l o o' h ho hp)
        (fun pre W => IBlk W wr.heap.size [wrap64 (pre.length : Int)] ∧ Mod (· = wr.heap.size) w3 W) (fun _ _ => False)
        (fun s X Y hs hb' => ⟨hs.1.mod (hb'.block _ (by omega)), hs.2.next hb' (Nat.le_refl _)⟩)
        (fun _ _ _ h _ => h) ⟨by rw [show wrap64 ((([] : List (Nat × List Nat)).length : Nat) : Int) = 0 by rw [List.length_nil]; exact wrap_in (by decide) (by decide)]; exact c1, Mod.refl _ _⟩
        (fun x => { tmps := #[.int .i64 k, undef, .int .i64 0, .int .i64 0, .slice (some ⟨w.heap.size, 0, none⟩) k k, u5, .pointer (some ⟨wr.heap.size, 0, none⟩), .int .i64 k, .bool (decide ((k:Int) < 2)), .bool (decide ((k:Int) < 2)), .int .i64 k, .bool (decide (8 < (k:Int))), .bool (decide ((k:Int) < 2) || decide (8 < (k:Int))), .int .i64 k,
          .slice (some ⟨w.heap.size, 0, none⟩) k k, .slice (some ⟨w.heap.size, 0, none⟩) k k, .int .i64 k, .int .i64 k, .bool false, u19, u20, u21, u22, u23, u24, u25, u26, u27, u28, u29, u30, u31, .slice (some ⟨w.heap.size, 0, none⟩) k k, .slice (some ⟨wr.heap.size + 1, 0, none⟩) k k,
          .func (.func 78) #[] #[.pointer (some ⟨w2.heap.size, 0, none⟩)], .slice (some ⟨x.1, 0, none⟩) k k, undef, undef, undef], defers := [] }) ?assign ?body ?done ?stop
      case assign =>
        intro l x W K hK
        gi_wp2
        exact hK
      case body =>
        rintro l' pre x W ⟨hIW, hMW⟩ _
        obtain ⟨hcw, hfw⟩ := hIW.cell (k := 0) (by simp)
        have HS := Lib.hid (hIW.set 0 (wrap64 (wrap64 (pre.length : Int) + 1)))
        have HE : Hid (wrap64 (((pre ++ [x]).length : Nat) : Int) = wrap64 (wrap64 (pre.length : Int) + 1)) := Lib.hid (by
          rw [wrap_add, List.length_append, Int.natCast_add]; rfl)
        have HM := Lib.hid hMW
        simp only [List.getD_cons_zero] at hcw
        clear hIW hMW
        generalize wrap64 (pre.length : Int) = c at *
        gi_wp2_with fail
        refine ⟨(Mod.refl (· = wr.heap.size) W).setCell (.inl rfl) _, ?_, HM.out.setCell (.inl rfl) _⟩
        rw [HE.out]
        exact HS.out
      case done =>
        rintro D xs W hD hS ⟨hIW, hMW⟩ hK
        have hlen : wrap64 (xs.length : Int) = guF k k 0 0 := by
          have := congrArg List.length hS
          rw [List.length_map] at this
          rw [this, HG.out]
          have := guF_I64 k k 0 0
          unfold I64 at this
          exact wrap_in this.1 this.2
        rw [hlen] at hIW
        obtain ⟨hcw, hfw⟩ := hIW.cell (k := 0) (by simp)
        simp only [List.getD_cons_zero] at hcw
        have hB3 := HB3.out
        gi_wp2_with fail
        refine ⟨by simp, .inl ⟨_, _, rfl, run_takeDeferred hK, ?_⟩⟩
        refine ⟨_, results_tmp2 rfl _ _ _, rfl, ?_⟩
        have hBW : Below w.heap.size w W := ⟨hMW.os.trans hB3.os, hMW.tape.trans hB3.tape, hMW.output.trans hB3.output, Nat.le_trans hB3.size hMW.size, fun j hj => (hMW.block j (by omega) (by omega)).trans (hB3.block j hj)⟩
        exact hBW.trans (putObj_below W _ _ (by omega) hK)
      case stop =>
        rintro D pre W _ _ h _
        exact h.elim

theorem Guests_bad (n : Int) (w : World) (h : (decide (2 ≤ n) && decide (n ≤ 8)) = false) :
    Calls Tryd.prog 40 #[.int .i64 n] w fun e w' => e = .returned (.tuple #[.int .i64 0, .int .i64 2]) ∧ w = w' := by
  by_cases h2 : n < 2
  · clear h
    go_enter Tryd.func40, Tryd.ntmps40
    go_wp2_with fail
    go_ret2
    exact ⟨rfl, rfl⟩
  · have h8 : 8 < n := by simp at h; omega
    clear h
    go_enter Tryd.func40, Tryd.ntmps40
    go_wp2_with fail
    go_ret2
    exact ⟨rfl, rfl⟩
end Go.Proofs.YtellnklbkjajbaaDoor
