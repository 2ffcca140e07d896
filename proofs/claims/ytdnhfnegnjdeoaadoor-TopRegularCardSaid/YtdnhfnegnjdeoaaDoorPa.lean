/- Pairs -/
import Derived.Test.YtdnhfnegnjdeoaaDoorFs
namespace Go.Proofs.YtdnhfnegnjdeoaaDoor
open Go.RowKit Go.Shelf

theorem commonL_any (v : Value) (bs : List Nat) (i j : Nat) (w : World) (h : Nats w v bs) (hb : ∀ k, bs.getD k 0 < 65536) (hi : i < bs.length) (hj : j < bs.length) :
    Calls Tryd.prog 63 #[v, .int .i64 i, .int .i64 j] w fun e w' => e = .returned (.int .i64 (com bs i j)) ∧ Below w.heap.size w w' := by
  obtain ⟨ao, cap, rfl, hcap, _, hx⟩ := Nats.open h
  obtain ⟨b, o, rfl, c1⟩ := hx i hi
  obtain ⟨b', o', e, c2⟩ := hx j hj
  simp only [Option.some.injEq, Addr.mk.injEq, and_true] at e
  obtain ⟨rfl, rfl⟩ := e
  have hand := i64_and (bs.getD i 0) (bs.getD j 0) (by have := hb i; omega) (by have := hb j; omega)
  have hlt : bs.getD i 0 &&& bs.getD j 0 < 65536 := Nat.lt_of_le_of_lt Nat.and_le_left (hb i)
  have HE : Hid (com bs i j = pop 16 (bs.getD i 0 &&& bs.getD j 0)) := rfl
  have HC := Lib.hid (fun w => size_any _ w hlt)
  have hi0 : (0:Int) ≤ (i:Int) := by omega
  have hj0 : (0:Int) ≤ (j:Int) := by omega
  have hi1 : (i:Int) < (bs.length:Int) := by omega
  have hj1 : (j:Int) < (bs.length:Int) := by omega
  clear hx hlt h hb
  generalize bs.getD i 0 = x at *
  generalize bs.getD j 0 = y at *
  generalize x &&& y = z at *
  go_enter Tryd.func63, Tryd.ntmps63
  go_wp2_with fail
  go_quiet ((go_at_call 62; exact quiet_eq (HC.out _)))
  go_wp2
  go_ret
  exact ⟨ret_int (by rw [HE.out]), below_drewN (Below.refl _ _) _⟩

def prJ (a : Nat) : Nat → List Nat
  | 0 => []
  | d + 1 => prJ a d ++ [2 ^ a ||| 2 ^ (a + 1 + d)]
def prI (n : Nat) : Nat → List Nat
  | 0 => []
  | a + 1 => prI n a ++ prJ a (n - (a + 1))
def pairF (n i j : Nat) : Bool := decide (com (prI n n) i j = 1)
def pairsL (n : Nat) : List Nat := plantL (prI n n).length (offD (pairF n))

set_option maxHeartbeats 400000 in
theorem pc_any (n i j : Nat) (Bb : Nat) (v : Value) (w : World) (hc : w.cell? ⟨Bb, 0, none⟩ = some v) (h : Nats w v (prI n n)) (hb : ∀ k, (prI n n).getD k 0 < 65536) (hi : i < (prI n n).length) (hj : j < (prI n n).length) :
    Calls Tryd.prog 75 #[.int .i64 i, .int .i64 j, .pointer (some ⟨Bb, 0, none⟩)] w fun e w' => e = .returned (.bool (pairF n i j)) ∧ Below w.heap.size w w' := by
  have HC := Lib.hid (commonL_any v (prI n n) i j w h hb hi hj)
  obtain ⟨ao, cap, rfl, _, _, _⟩ := Nats.open h
  have HF : Hid (pairF n i j = (((com (prI n n) i j : Nat) : Int) == 1)) := Lib.hid (by
    unfold pairF
    generalize com (prI n n) i j = c
    by_cases e : c = 1
    · rw [decide_eq_true e, e]; rfl
    · rw [decide_eq_false e]; exact (beq_eq_false_iff_ne.2 fun h => e (by omega)).symm)
  clear h hb hi hj
  generalize com (prI n n) i j = c at *
  go_enter Tryd.func75, Tryd.ntmps75
  go_wp2_with fail
  refine HC.out.mono ?_
  rintro e w1 ⟨rfl, hb1⟩
  have HB := Lib.hid hb1
  clear hb1
  go_wp2
  go_ret
  exact ⟨ret_bool HF.out.symm, HB.out⟩

/-- A box with a slice of numbers that the call owns. -/
structure PB (w0 w : World) (B : Nat) (v : Value) (hs : List Nat) : Prop where
  box : w.heap[B]? = some (.cells #[v] 22 (0, 0))
  own : w.ownsRow (B + 1) 3 1 v (nats hs).length (ints (nats hs))
  bel : Below B w0 w
  lt : B < w.heap.size
theorem PB.cell {w0 w : World} {B : Nat} {v : Value} {hs : List Nat} (h : PB w0 w B v hs) : w.cell? ⟨B, 0, none⟩ = some v := by
  simp only [World.cell?, show w.heap[B]? = _ from h.box]; rfl
theorem PB.fr {w0 w : World} {B : Nat} {v : Value} {hs : List Nat} (h : PB w0 w B v hs) : w.frozen? ⟨B, 0, none⟩ = false := by
  simp [World.frozen?, show w.heap[B]? = _ from h.box]
theorem PB.drew {w0 w : World} {B : Nat} {v : Value} {hs : List Nat} (h : PB w0 w B v hs) : PB w0 w.drew B v hs := ⟨h.box, h.own, h.bel.drew, h.lt⟩
theorem PB.kept {w0 w w1 : World} {B : Nat} {v : Value} {hs : List Nat} {o : Obj} (h : PB w0 w B v hs) (hg : (w.alloc o).grownBy w1 v.ownBlock) : w1.heap[B]? = some (.cells #[v] 22 (0, 0)) := by
  refine (hg.block B (by have := h.lt; simp; omega) fun e => ?_).trans ((Below.heap_alloc _ _ _ h.lt).trans h.box)
  have := (h.own.lt _ e.symm).1
  omega
theorem PB.kept_c {w0 w w1 : World} {B : Nat} {v : Value} {hs : List Nat} {o : Obj} (h : PB w0 w B v hs) (hg : (w.alloc o).grownBy w1 v.ownBlock) : w1.cell? ⟨B, 0, none⟩ = some v ∧ w1.frozen? ⟨B, 0, none⟩ = false := by
  constructor
  · simp only [World.cell?, show w1.heap[B]? = _ from h.kept hg]; rfl
  · simp [World.frozen?, show w1.heap[B]? = _ from h.kept hg]
theorem PB.step {w0 w w1 : World} {B x : Nat} {v v' : Value} {hs : List Nat} {o : Obj} (h : PB w0 w B v hs)
    (ho : w1.ownsRow (B + 1) 3 1 v' ((nats hs).length + 1) (ints (nats hs) ++ [.int .i64 (x : Int)])) (hg : (w.alloc o).grownBy w1 v.ownBlock) : PB w0 (w1.setCell ⟨B, 0, none⟩ v') B v' (hs ++ [x]) := by
  have hbox := h.kept hg
  refine ⟨heap_set_at (k := 0) hbox v', ?_, ?_, ?_⟩
  · have e : ints (nats (hs ++ [x])) = ints (nats hs) ++ [.int .i64 (x : Int)] := by simp [ints, nats]
    have e2 : (nats (hs ++ [x])).length = (nats hs).length + 1 := by simp [nats]
    rw [e, e2]
    exact ownsRow_setCell_below ho (by show B < B + 1; omega) v'
  · exact (((h.bel.alloc (by have := h.lt; omega) o).grown hg (by have := h.lt; simp; omega) fun k hk => by have := (h.own.lt _ hk).1; omega)).setCell (p := ⟨B, 0, none⟩) (Nat.le_refl _) v'
  · have := hg.size
    have h2 := h.lt
    simp at this
    simp [World.setCell]; omega

set_option maxRecDepth 100000 in
set_option maxHeartbeats 2000000 in
theorem Pairs_any (n : Nat) (w : World) (h4 : 4 ≤ n) (h6 : n ≤ 6) : Calls Tryd.prog 33 #[.int .i64 n] w fun e w' => ∃ v, e = .returned (.tuple #[v, .int .i64 0]) ∧ Nats w' v (pairsL n) ∧ Below w.heap.size w w' := by
  have HP0 : Hid (PB w (w.alloc (.cells #[.slice none 0 0] 22)) w.heap.size (.slice none 0 0) []) := Lib.hid ⟨heap_alloc_new w _, World.ownsRow_nil _ _ _ _, (Below.refl _ _).alloc (Nat.le_refl _) _, by simp⟩
  obtain ⟨i0, hi0, hz0, hz1, hz2⟩ := info_parts Tryd.info3
  have HLEN : Hid (∀ a d, a ≤ n → d ≤ n → (prI n a ++ prJ a d).length ≤ 100) := Lib.hid (by
    have : ∀ m, m < 7 → ∀ a, a ≤ m → ∀ d, d ≤ m → (prI m a ++ prJ a d).length ≤ 100 := by decide +kernel
    exact fun a d ha hd => this n (by omega) a ha d hd)
  go_enter Tryd.func33, Tryd.ntmps33
  go_wp2_with fail
  go_loopw [14] (fun ii wr => ∃ (a : Nat) (v : Value), a ≤ n ∧ ii = .int .i64 a ∧ PB w wr w.heap.size v (prI n a)) (fun ii _ => n - (intOf ii).toNat)
  case atStart => exact ⟨0, _, Nat.zero_le _, rfl, HP0.out⟩
  case round =>
    clear HP0
    obtain ⟨a, v, ha, rfl, hP⟩ := hrel
    have HP := Lib.hid hP
    clear hP
    by_cases hat : a < n
    · go_wp2_with fail
      go_loopw [6] (fun bb wj => ∃ (d : Nat) (v : Value), a + 1 + d ≤ n ∧ bb = .int .i64 (a + 1 + d : Nat) ∧ PB w wj w.heap.size v (prI n a ++ prJ a d)) (fun bb _ => n - (intOf bb).toNat)
      case atStart => exact ⟨0, v, by omega, by go_num, by rw [prJ, List.append_nil]; exact HP.out⟩
      case round =>
        clear HP
        obtain ⟨d, v, hd, rfl, hP⟩ := hrel
        have HP := Lib.hid hP
        have c1 := hP.cell
        have f1 := hP.fr
        have hll := HLEN.out a d ha (by omega)
        clear hP
        obtain ⟨ao', c', rfl⟩ := owns_form HP.out.own
        by_cases hdt : a + 1 + d < n
        · have ha16 : a ≤ 16 := by omega
          have hb16 : a + 1 + d ≤ 16 := by omega
          have p1 := pw_nat a ha16
          have p2 := pw_nat (a + 1 + d) hb16
          have hp3 : 2 ^ a ≤ 64 := (Nat.pow_le_pow_right (by decide) (by omega) : 2 ^ a ≤ 2 ^ 6)
          have hp4 : 2 ^ (a + 1 + d) ≤ 64 := (Nat.pow_le_pow_right (by decide) (by omega) : 2 ^ (a + 1 + d) ≤ 2 ^ 6)
          have hor : bits .or .i64 ((2:Int) ^ a) ((2:Int) ^ (a + 1 + d)) = ((2 ^ a ||| 2 ^ (a + 1 + d) : Nat) : Int) := by rw [← pw_cast, ← pw_cast]; exact i64_or _ _ (by omega) (by omega)
          have w1 : IntKind.i64.wrap ((2:Int) ^ a) = (2:Int) ^ a := by rw [← pw_cast]; exact i64_of (by omega) (by omega)
          have w2 : IntKind.i64.wrap ((2:Int) ^ (a + 1 + d)) = (2:Int) ^ (a + 1 + d) := by rw [← pw_cast]; exact i64_of (by omega) (by omega)
          have HST : Hid (prI n a ++ prJ a (d + 1) = (prI n a ++ prJ a d) ++ [2 ^ a ||| 2 ^ (a + 1 + d)]) := Lib.hid (by rw [prJ, List.append_assoc])
          have HPd := Lib.hid HP.out.drew
          have hnl : (nats (prI n a ++ prJ a d)).length ≤ 100 := by rw [nats_length]; exact hll
          clear p1 p2 hp3 hp4 hll
          generalize 2 ^ a ||| 2 ^ (a + 1 + d) = x at *
          generalize prI n a ++ prJ a d = pl at *
          generalize hbd : a + 1 + d = bd at *
          have HBD := Lib.hid hbd
          clear hbd
          go_wp2_with fail
          refine wp_region_any (by kernel_rfl) ?_
          change wpAny _ _ _ _ _ _ _ (World.drew _)
          refine wpAny_take (i := 1) (v := .int .i64 a) rfl (by kernel_rfl) (by kernel_rfl) (by kernel_rfl) (fun _ _ _ h => h) (Or.inl ⟨by rfl, ?_⟩) ?_
          · intro w'
            go_simp
          simp only [Act.put]
          refine wpAny_take (i := 2) (v := .int .i64 (2 ^ a)) rfl (by kernel_rfl) (by kernel_rfl) (by kernel_rfl) (fun _ _ _ h => h) (Or.inl ⟨by rfl, ?_⟩) ?_
          · intro w'
            go_simp
          simp only [Act.put]
          refine wpAny_take (i := 3) (v := .int .i64 bd) rfl (by kernel_rfl) (by kernel_rfl) (by kernel_rfl) (fun _ _ _ h => h) (Or.inl ⟨by rfl, ?_⟩) ?_
          · intro w'
            go_simp
          simp only [Act.put]
          refine wpAny_take (i := 4) (v := .int .i64 (2 ^ bd)) rfl (by kernel_rfl) (by kernel_rfl) (by kernel_rfl) (fun _ _ _ h => h) (Or.inl ⟨by rfl, ?_⟩) ?_
          · intro w'
            go_simp
          simp only [Act.put]
          refine wpAny_take (i := 5) (v := .int .i64 (x : Nat)) rfl (by kernel_rfl) (by kernel_rfl) (by kernel_rfl) (fun _ _ _ h => h) (Or.inl ⟨by rfl, ?_⟩) ?_
          · intro w'
            go_simp
          simp only [Act.put]
          have c1d : wr.drew.cell? ⟨w.heap.size, 0, none⟩ = some (.slice ao' (nats pl).length c') := c1
          have c1a : (wr.drew.alloc (.cells #[.int .i64 (x : Nat)] 3)).cell? ⟨w.heap.size, 0, none⟩ = some (.slice ao' (nats pl).length c') := ck c1d ((Below.refl _ _).alloc (Nat.le_refl _) _)
          have c1b : (wr.alloc (.cells #[.int .i64 (x : Nat)] 3)).drew.cell? ⟨w.heap.size, 0, none⟩ = some (.slice ao' (nats pl).length c') := c1a
          refine wpAny_ready (rs := [0, 6]) (by kernel_rfl) (by simp) (AllReady.cons rfl (fun K hK => ?_) (AllReady.cons rfl (fun K hK => ?_) AllReady.nil))
          · go_simp
            refine hK _ _ ?_
            clear hK K
            refine wpAny_ready (rs := [6]) (by kernel_rfl) (by simp) (AllReady.cons rfl (fun K hK => ?_) AllReady.nil)
            go_simp
            refine hK _ _ ?_
            clear hK K
            refine wpAny_ready (rs := [7]) (by kernel_rfl) (by simp) (AllReady.cons rfl (fun K hK => ?_) AllReady.nil)
            rw [if_pos (by rfl)]
            refine wp_append_own _ _ _ 22 rfl (w.heap.size + 1) 3 i0 (.int .i64 0) 1 8 Tryd.underlying22 hi0 hz0 hz1 hz2 rfl (by decide) _ _ _ rfl (HPd.out.own.alloc _) ⟨wr.heap.size, 0, none⟩ 1 1 [.int .i64 (x : Nat)] rfl rfl (newOne _ _ _) (oneInt _) (by unfold maxLen; omega) (by omega) (by have := HP.out.lt; simp; omega) ?_
            intro v' w2 hown' hgrow _
            obtain ⟨a5, c5, rfl⟩ := owns_form hown'
            obtain ⟨hcb, hfb⟩ := HPd.out.kept_c hgrow
            have HN := Lib.hid (HPd.out.step hown' hgrow)
            refine hK _ _ ?_
            clear hK K
            simp only [Act.put]
            refine wpAny_ready (rs := [8]) (by kernel_rfl) (by simp) (AllReady.cons rfl (fun K hK => ?_) AllReady.nil)
            go_simp
            refine hK _ _ ?_
            clear hK K
            refine wpAny_done (by kernel_rfl) ?_ _
            go_wp2_with fail
            go_roundw
            case rel => exact ⟨d + 1, _, by have := HBD.out; omega, by have := HBD.out; go_num, by rw [HST.out]; exact HN.out⟩
            case measure => simp [intOf]; omega
          · go_simp
            refine hK _ _ ?_
            clear hK K
            refine wpAny_ready (rs := [0]) (by kernel_rfl) (by simp) (AllReady.cons rfl (fun K hK => ?_) AllReady.nil)
            go_simp
            refine hK _ _ ?_
            clear hK K
            refine wpAny_ready (rs := [7]) (by kernel_rfl) (by simp) (AllReady.cons rfl (fun K hK => ?_) AllReady.nil)
            rw [if_pos (by rfl)]
            refine wp_append_own _ _ _ 22 rfl (w.heap.size + 1) 3 i0 (.int .i64 0) 1 8 Tryd.underlying22 hi0 hz0 hz1 hz2 rfl (by decide) _ _ _ rfl (HPd.out.own.alloc _) ⟨wr.heap.size, 0, none⟩ 1 1 [.int .i64 (x : Nat)] rfl rfl (newOne _ _ _) (oneInt _) (by unfold maxLen; omega) (by omega) (by have := HP.out.lt; simp; omega) ?_
            intro v' w2 hown' hgrow _
            obtain ⟨a5, c5, rfl⟩ := owns_form hown'
            obtain ⟨hcb, hfb⟩ := HPd.out.kept_c hgrow
            have HN := Lib.hid (HPd.out.step hown' hgrow)
            refine hK _ _ ?_
            clear hK K
            simp only [Act.put]
            refine wpAny_ready (rs := [8]) (by kernel_rfl) (by simp) (AllReady.cons rfl (fun K hK => ?_) AllReady.nil)
            go_simp
            refine hK _ _ ?_
            clear hK K
            refine wpAny_done (by kernel_rfl) ?_ _
            go_wp2_with fail
            go_roundw
            case rel => exact ⟨d + 1, _, by have := HBD.out; omega, by have := HBD.out; go_num, by rw [HST.out]; exact HN.out⟩
            case measure => simp [intOf]; omega
        · have hde : d = n - (a + 1) := by omega
          have HN : Hid (PB w wr w.heap.size (.slice ao' (nats (prI n a ++ prJ a d)).length c') (prI n (a + 1))) := Lib.hid (by
            have e : prI n (a + 1) = prI n a ++ prJ a d := by rw [prI, hde]
            rw [e]; exact HP.out)
          have hnt : ¬ (((a + 1 + d : Nat) : Int) < (n:Int)) := by omega
          clear hde HP hll
          generalize prI n a ++ prJ a d = pl at *
          go_wp2_with fail
          go_roundw
          case rel => exact ⟨a + 1, _, by omega, by go_num, HN.out⟩
          case measure => simp [intOf]; omega
    · obtain rfl : a = n := by omega
      obtain ⟨ao', c', rfl⟩ := owns_form HP.out.own
      have hfin : ∀ m, m < 7 → (prI m m).length ≤ 16 ∧ ∀ z ∈ prI m m, z < 65536 := by decide +kernel
      obtain ⟨hl16, hz16⟩ := hfin a (by omega)
      have HNats : Hid (Nats wr (.slice ao' (nats (prI a a)).length c') (prI a a)) := Lib.hid (Ints.of_owns HP.out.own (by rw [nats_length]; omega) (nats_I64 hz16))
      have c1 := HP.out.cell
      have HT : Hid (Tells 75 #[.pointer (some ⟨w.heap.size, 0, none⟩)] (prI a a).length (pairF a) wr) := Lib.hid ⟨enters_of Tryd.func75 (by kernel_rfl) rfl, fun i j w' hi hj _ hb' => pc_any a i j _ _ w' (ck c1 hb') (HNats.out.below hb' (Nat.le_refl _)) (fun k => by
        by_cases hk : k < (prI a a).length
        · exact hz16 _ (natD_mem hk)
        · rw [getD_over (by omega)]; decide) hi hj⟩
      have HC := Lib.hid (tie_any (prI a a).length 75 _ (pairF a) wr hl16 HT.out)
      have HLE : Hid ((pairsL a).length = (prI a a).length) := Lib.hid (by unfold pairsL; rw [plant_length])
      have H16 : Hid (∀ z ∈ pairsL a, z < 65536) := Lib.hid (by
        intro z hz
        obtain ⟨i, _, rfl⟩ := List.mem_map.1 hz
        exact Nat.lt_of_lt_of_le (mk_lt _ _) (pw_nat _ hl16).2)
      have HBW := Lib.hid HP.out.bel
      have hlen : ((nats (prI a a)).length : Int) = ((prI a a).length : Int) := by rw [nats_length]
      rw [nats_length] at c1
      clear hfin HP HNats hz16 HT
      go_wp2_with fail
      refine HC.out.mono ?_
      rintro e w2 ⟨rfl, hN, hb2⟩
      have HN := Lib.hid (NatBlk.nats (hs := pairsL a) hN (by rw [HLE.out]; omega) H16.out)
      rw [HLE.out] at HN
      have HB2 := Lib.hid (HBW.out.trans (hb2.mono HBW.out.size))
      clear hN hb2
      go_wp2_with fail
      go_ret2
      exact ⟨_, rfl, HN.out, HB2.out⟩

set_option maxHeartbeats 400000 in
theorem Pairs_bad (n : Int) (w : World) (h : n < 4 ∨ 6 < n) : Calls Tryd.prog 33 #[.int .i64 n] w fun e w' => e = .returned (.tuple #[.slice none 0 0, .int .i64 2]) ∧ Below w.heap.size w w' := by
  by_cases h1 : n < 4
  · clear h
    go_enter Tryd.func33, Tryd.ntmps33
    go_wp2_with fail
    go_ret2
    exact ⟨rfl, Below.refl _ _⟩
  · have h2 : 6 < n := by omega
    clear h
    go_enter Tryd.func33, Tryd.ntmps33
    go_wp2_with fail
    go_ret2
    exact ⟨rfl, Below.refl _ _⟩
end Go.Proofs.YtdnhfnegnjdeoaaDoor
