/- has, Hits -/
import Derived.Test.YtellnklbkjajbaaDoorPc
import Derived.Test.YtellnklbkjajbaaDoorLs
import Derived.Test.YtellnklbkjajbaaDoorMc
namespace Go.Proofs.YtellnklbkjajbaaDoor
open Go.RowKit Go.Shelf
attribute [local go_sem] Oper.semAt_some

theorem has_any (x n : Nat) (w : World) (hx : x < 65536) (hn : n ≤ 16) :
    Calls Tryd.prog 54 #[.int .i64 x, .int .i64 n] w fun e w' => e = .returned (.bool (x.testBit n)) ∧ w = w' := by
  have h := bit_and1' x n hx
  have h0 : (0:Int) ≤ (n:Int) := by omega
  go_enter Tryd.func54, Tryd.ntmps54
  go_wp2
  go_ret
  exact ⟨rfl, rfl⟩

/-- How many of the first k squares of a permutation are on the board. -/
def hitK (bs p : List Nat) : Nat → Nat
  | 0 => 0
  | k + 1 => hitK bs p k + (if (bs.getD k 0).testBit (p.getD k 0) then 1 else 0)
theorem hitK_le (bs p : List Nat) (k : Nat) : hitK bs p k ≤ k := by
  induction k with
  | zero => exact Nat.le_refl _
  | succ k ih => rw [hitK]; split <;> omega
/-- One permutation more is counted. -/
def hit1 (bs : List Nat) (v : List Int) (p : List Nat) : List Int := v.set (hitK bs p bs.length) (wrap64 (v.getD (hitK bs p bs.length) 0 + 1))
theorem hit1_length (bs : List Nat) (v : List Int) (p : List Nat) : (hit1 bs v p).length = v.length := by simp [hit1]
/-- All permutations of n. -/
def allP (n : Nat) : List (List Nat) := permsF (otherL n (List.replicate n 0)) 0 []
def hitsL (bs : List Nat) : List Int := (allP bs.length).foldl (hit1 bs) (List.replicate (bs.length + 1) 0)
theorem hitsL_length (bs : List Nat) : (hitsL bs).length = bs.length + 1 := by rw [hitsL, foldl_length _ (hit1_length bs), List.length_replicate]

theorem hPreP (n A B : Nat) (x : Nat × List Nat) (X : World) (l : Nat) (o o' : Obj) (h : X.heap[l]? = some o) (ho : o.isCells = false) (hp : PreP n A B x X) : PreP n A B x (X.putObj l o') := by
  refine ⟨hp.1.mod (World.putObj_heap_other fun e => ?_), hp.2⟩
  have h1 := hp.1
  unfold IBlk at h1
  rw [e, h] at h1
  cases h1
  cases ho

theorem Mod.next {S : Nat → Prop} {a X Y : World} {B : Nat} (h : Mod S a X) (hb : Below B X Y) (hB : a.heap.size ≤ B) : Mod S a Y :=
  ⟨hb.os.trans h.os, hb.tape.trans h.tape, hb.output.trans h.output, Nat.le_trans h.size hb.size, fun k hk hn => (hb.block k (Nat.lt_of_lt_of_le hk hB)).trans (h.block k hk hn)⟩

theorem zero_brd {n : Nat} (h1 : 1 ≤ n) (h2 : n ≤ 6) : Brd n (List.replicate n 0) := ⟨by simp, h1, h2, fun x hx => by rw [List.eq_of_mem_replicate hx]; exact Nat.two_pow_pos n⟩

/-- The blocks that Hits lays. -/
abbrev ht4 (w : World) (ao : Option Addr) (n cap : Nat) : World := (((w.alloc (.cells #[.slice ao n cap] 22)).alloc (.cells (ints (List.replicate (n + 1) 0)).toArray 3)).alloc (.cells #[.slice (some ⟨w.heap.size + 1, 0, none⟩) (n + 1) (n + 1)] 22)).alloc
  (.cells (ints (List.replicate n 0)).toArray 3)
theorem ht4_c (w : World) (ao : Option Addr) (n cap : Nat) : (ht4 w ao n cap).cell? ⟨w.heap.size, 0, none⟩ = some (.slice ao n cap) ∧ IBlk (ht4 w ao n cap) (w.heap.size + 1) (List.replicate (n + 1) 0) ∧
    (ht4 w ao n cap).cell? ⟨w.heap.size + 1 + 1, 0, none⟩ = some (.slice (some ⟨w.heap.size + 1, 0, none⟩) (n + 1) (n + 1)) ∧ NatBlk (ht4 w ao n cap) (w.heap.size + 1 + 1 + 1) (List.replicate n 0) ∧
    Below w.heap.size w (ht4 w ao n cap) ∧ (ht4 w ao n cap).heap.size = w.heap.size + 1 + 1 + 1 + 1 := by
  have h0 := cell_new w (.slice ao n cap) 22
  have h1 : IBlk ((w.alloc (.cells #[.slice ao n cap] 22)).alloc (.cells (ints (List.replicate (n + 1) 0)).toArray 3)) (w.heap.size + 1) (List.replicate (n + 1) 0) := by
    have := heap_alloc_new (w.alloc (.cells #[.slice ao n cap] 22)) (.cells (ints (List.replicate (n + 1) 0)).toArray 3)
    rwa [World.size_alloc] at this
  have h2 := cell_new ((w.alloc (.cells #[.slice ao n cap] 22)).alloc (.cells (ints (List.replicate (n + 1) 0)).toArray 3)) (.slice (some ⟨w.heap.size + 1, 0, none⟩) (n + 1) (n + 1)) 22
  rw [World.size_alloc, World.size_alloc] at h2
  have h3 : NatBlk (ht4 w ao n cap) (w.heap.size + 1 + 1 + 1) (List.replicate n 0) := by
    have := heap_alloc_new (((w.alloc (.cells #[.slice ao n cap] 22)).alloc (.cells (ints (List.replicate (n + 1) 0)).toArray 3)).alloc (.cells #[.slice (some ⟨w.heap.size + 1, 0, none⟩) (n + 1) (n + 1)] 22)) (.cells (ints (List.replicate n 0)).toArray 3)
    rw [World.size_alloc, World.size_alloc, World.size_alloc] at this
    have e : nats (List.replicate n 0) = List.replicate n 0 := by simp [nats]
    unfold NatBlk
    rw [e]
    exact this
  exact ⟨alloc_cell _ (alloc_cell _ (alloc_cell _ h0)), (h1.alloc _).alloc _, alloc_cell _ h2, h3, ((((Below.refl _ w).alloc (Nat.le_refl _) _).alloc (by simp) _).alloc (by simp; omega) _).alloc (by simp; omega) _, by simp only [World.size_alloc]⟩

set_option maxRecDepth 100000 in
set_option maxHeartbeats 2000000 in
theorem Hits_any (v : Value) (bs : List Nat) (n : Nat) (w : World) (hb : Brd n bs) (h : Nats w v bs) (hT : Tab w) :
    Calls Tryd.prog 17 #[v] w fun e w' => ∃ A, e = .returned (.tuple #[.slice (some ⟨A, 0, none⟩) (n + 1) (n + 1), .int .i64 0]) ∧ IBlk w' A (hitsL bs) ∧ Below w.heap.size w w' := by
  have HB := Lib.hid (fun w' (hb' : Below w.heap.size w w') => isBoard_any v (nats bs) w' (h.below hb' (Nat.le_refl _)))
  rw [boardB_mk hb] at HB
  obtain ⟨ao, cap, rfl, h1, _, hx⟩ := h.open
  have hl := hb.len
  have hn6 := hb.le
  rw [hl] at h1 HB hx ⊢
  have hmk : ∀ W : World, (Instr.makeSlice 22 (.int .i64 ((n:Int) + 1)) (.int .i64 ((n:Int) + 1))).run Tryd.prog W = .ok (.slice (some ⟨W.heap.size, 0, none⟩) (n + 1) (n + 1)) (W.alloc (.cells (ints (List.replicate (n + 1) 0)).toArray 3)) :=
    run_make22 (n + 1) (n + 1) (Nat.le_refl _) (by omega)
  have hmk2 : ∀ W : World, (Instr.makeSlice 22 (.int .i64 (n:Int)) (.int .i64 (n:Int))).run Tryd.prog W = .ok (.slice (some ⟨W.heap.size, 0, none⟩) n n) (W.alloc (.cells (ints (List.replicate n 0)).toArray 3)) :=
    run_make22 n n (Nat.le_refl _) (by omega)
  have hc0 := cell_new w (.slice ao n cap) 22
  have hB0 : Below w.heap.size w (w.alloc (.cells #[.slice ao n cap] 22)) := (Below.refl _ w).alloc (Nat.le_refl _) _
  have HB0 := Lib.hid hB0
  refine (callsIn_wide (n := 10)).1 ?_
  refine callsIn_of_wp_marks Tryd.func17 rfl trivial ?_ rfl
  simp only [Tryd.ntmps17, List.size_toArray, List.length_cons, List.length_nil, Nat.reduceAdd, Nat.reduceSub, Array.replicate_succ, Array.replicate_zero, List.push_toArray, List.append_toArray, List.nil_append, List.cons_append]
  gi_wp2_with fail
  refine ⟨trivial, (callsIn_wide.2 (HB.out _ hB0)).mono ?_⟩
  rintro e w' ⟨rfl, rfl⟩
  obtain ⟨g0, g1, g2, g3, gB, gs⟩ := ht4_c w ao n cap
  have hzb := zero_brd hb.pos hn6
  have HO := Lib.hid (other_any _ (List.replicate n 0) n (ht4 w ao n cap) hzb (g3.mat hzb))
  rw [gs] at HO
  have HG := Lib.hid (And.intro g0 (And.intro g1 (And.intro g2 gB)))
  clear g0 g1 g2 g3 gB HB hB0 hc0
  gi_wp2_with fail
  refine ⟨trivial, (callsIn_wide.2 HO.out).mono ?_⟩
  rintro e w5 ⟨rfl, hN5, hB5⟩
  have HN5 := Lib.hid hN5
  have HB5 := Lib.hid hB5
  clear hN5 hB5 HO
  gi_wp2_with fail
  refine ⟨trivial, (callsIn_wide.2 (permutations_any _ _ _ _)).mono ?_⟩
  rintro e w' ⟨rfl, rfl⟩
  gi_wp2_with fail
  obtain ⟨g0, g1, g2, gB⟩ := HG.out
  have hB5 : Below w.heap.size w w5 := gB.trans (HB5.out.mono (by omega))
  have hs5 : w.heap.size + 1 + 1 + 1 + 1 < w5.heap.size := lt_of_block HN5.out
  have hcb := cell_new w5 (.slice (some ⟨w.heap.size + 1 + 1 + 1 + 1, 0, none⟩) n n) 22
  have hB56 : Below w5.heap.size w5 (w5.alloc (.cells #[.slice (some ⟨w.heap.size + 1 + 1 + 1 + 1, 0, none⟩) n n] 22)) := (Below.refl _ w5).alloc (Nat.le_refl _) _
  have hs6 : (w5.alloc (.cells #[.slice (some ⟨w.heap.size + 1 + 1 + 1 + 1, 0, none⟩) n n] 22)).heap.size = w5.heap.size + 1 := World.size_alloc _ _
  have h50 : Below (w.heap.size + 1 + 1 + 1 + 1) (ht4 w ao n cap) (w5.alloc (.cells #[.slice (some ⟨w.heap.size + 1 + 1 + 1 + 1, 0, none⟩) n n] 22)) := HB5.out.trans (hB56.mono (by omega))
  have c0 := (World.cell?_of_block (a := ⟨w.heap.size, 0, none⟩) (h50.block w.heap.size (by omega))).trans g0
  have c2 := (World.cell?_of_block (a := ⟨w.heap.size + 1 + 1, 0, none⟩) (h50.block (w.heap.size + 1 + 1) (by omega))).trans g2
  have c1 : IBlk (w5.alloc (.cells #[.slice (some ⟨w.heap.size + 1 + 1 + 1 + 1, 0, none⟩) n n] 22)) (w.heap.size + 1) (List.replicate (n + 1) 0) := g1.mod (h50.block (w.heap.size + 1) (by omega))
  have hN6 : NatBlk (w5.alloc (.cells #[.slice (some ⟨w.heap.size + 1 + 1 + 1 + 1, 0, none⟩) n n] 22)) (w.heap.size + 1 + 1 + 1 + 1) (otherL n (List.replicate n 0)) := HN5.out.below hB56
  have hB6 : Below w.heap.size w (w5.alloc (.cells #[.slice (some ⟨w.heap.size + 1 + 1 + 1 + 1, 0, none⟩) n n] 22)) := hB5.trans (hB56.mono (by omega))
  clear g0 g1 g2 gB hB5 hB56 h50 HG HN5 HB5 HB0 gs
  generalize (w5.alloc (.cells #[.slice (some ⟨w.heap.size + 1 + 1 + 1 + 1, 0, none⟩) n n] 22)) = w6 at *
  have hlt := tab_lt hT
  have hob := other_brd hzb
  have HIt := perms_iter (otherL n (List.replicate n 0)) (w.heap.size + 1) w5.heap.size w6 (by omega) (by omega) (tab_block hT (hB6.block 1 hlt)) (by rw [hob.len]; exact hcb) (Nat.le_refl _)
    (fun k hk => ⟨_, _, rfl, by omega, by have := (hN6.cell hk).1; simpa using this⟩) (by omega) (fun x hx => Nat.lt_of_lt_of_le (hob.lt x hx) (by have := pw6 n hn6; omega)) (by rw [hob.len]; omega)
  rw [hob.len] at HIt
  have HAll : Hid (permsF (otherL n (List.replicate n 0)) 0 [] = allP n) := rfl
  have HLn := Lib.hid hl
  have HX := Lib.hid hx
  have HC := Lib.hid (And.intro c0 (And.intro c2 hB6))
  have HRb := Lib.hid (fun k => Nat.lt_of_lt_of_le (hb.get k) (pw6 n hn6).2)
  have hA6 : w.heap.size + 1 < w6.heap.size := by omega
  clear hx hb h hN6 hzb hob hT hcb hl hmk hmk2
  refine range_mine (n := 10) (gf := 78) (lb := #[.pointer (some ⟨w5.heap.size, 0, none⟩)]) rfl (enters_of Tryd.func78 (by kernel_rfl) rfl) HIt (fun _ => rfl) hA6 (fun x X l o o' h ho hp => hPreP _ _ _ x X l o o' h ho hp)
    (fun pre W => IBlk W (w.heap.size + 1) ((pre.map (·.2)).foldl (hit1 bs) (List.replicate (n + 1) 0)) ∧ Mod (· = w.heap.size + 1) w6 W) (fun _ _ => False)
    (fun s X Y hs hb' => ⟨hs.1.mod (hb'.block _ (by omega)), hs.2.next hb' (Nat.le_refl _)⟩)
    (fun _ _ _ h _ => h) ⟨c1, Mod.refl _ _⟩
    (fun x => { tmps := #[.slice ao n cap, .pointer (some ⟨w.heap.size, 0, none⟩), .slice none 0 0, .int .i64 0, .pointer (some ⟨w.heap.size + 1 + 1, 0, none⟩), .slice (some ⟨x.1, 0, none⟩) n n, undef, undef, undef, .slice ao n cap, .bool true, .bool false, .slice ao n cap, .int .i64 n, .int .i64 ((n:Int) + 1),
      .slice (some ⟨w.heap.size + 1, 0, none⟩) (n + 1) (n + 1), .slice ao n cap, .int .i64 n, .slice (some ⟨w.heap.size + 1 + 1 + 1, 0, none⟩) n n, .slice (some ⟨w.heap.size + 1 + 1 + 1 + 1, 0, none⟩) n n, .func (.func 78) #[] #[.pointer (some ⟨w5.heap.size, 0, none⟩)], .slice (some ⟨x.1, 0, none⟩) n n,
      undef, undef, undef, undef, undef, undef, undef, undef, undef, undef, undef, undef, undef, undef, undef, undef, undef, undef, undef, undef, undef, undef, undef], defers := [] }) ?assign ?body ?done ?stop
  case assign =>
    intro l x W K hK
    gi_wp2
    exact hK
  case body =>
    rintro l' pre x W ⟨hIW, hMW⟩ ⟨hp, hpl, hp8, hpA, _⟩
    obtain ⟨c0, c2, hB6⟩ := HC.out
    have cW (a : Nat) (v : Value) (h : w6.cell? ⟨a, 0, none⟩ = some v) (ha : a ≠ w.heap.size + 1) : W.cell? ⟨a, 0, none⟩ = some v := mod_cell hMW (a := ⟨a, 0, none⟩) ha h
    have k0 := cW _ _ c0 (by omega)
    have k2 := cW _ _ c2 (by omega)
    have HXW : Hid (∀ k, k < n → ∃ b o, ao = some ⟨b, o, none⟩ ∧ W.cell? ⟨b, o + k, none⟩ = some (.int .i64 (bs.getD k 0 : Nat))) := Lib.hid fun k hk => by
      obtain ⟨b, o, e, hc⟩ := HX.out k hk
      have hlt := World.block_lt_of_cell? w _ hc
      exact ⟨b, o, e, mod_cell hMW (a := ⟨b, o + k, none⟩) (by simp at hlt; show b ≠ _; omega) ((World.cell?_of_block (hB6.block b hlt)).trans hc)⟩
    have HP := Lib.hid hp
    have HP8 : Hid (∀ k, x.2.getD k 0 < 8) := Lib.hid fun k => by
      by_cases hk : k < x.2.length
      · exact hp8 _ (natD_mem hk)
      · rw [getD_over (by omega)]; decide
    have HI := Lib.hid hIW
    have HM := Lib.hid hMW
    clear hp hp8 hIW hMW cW c0 c2 hB6
    gi_wp2_with fail
    gi_loopw [6, 24] (fun s ii wr => wr = W ∧ ∃ k : Nat, k ≤ n ∧ ii = .int .i64 k ∧ s = .int .i64 (hitK bs x.2 k : Nat)) (fun _ ii _ => n - (intOf ii).toNat)
    case atStart => exact ⟨rfl, 0, Nat.zero_le _, rfl, rfl⟩
    case round =>
      obtain ⟨rfl, k, hk, rfl, rfl⟩ := hrel
      have hle := hitK_le bs x.2 k
      by_cases hlt : k < n
      · obtain ⟨b, o, rfl, hcb⟩ := HXW.out k hlt
        obtain ⟨hcp, _⟩ := HP.out.cell (k := k) (by rw [nats_length]; omega)
        rw [nats_getD] at hcp
        have hj8 := HP8.out k
        have hb64 := HRb.out k
        have HC' := Lib.hid (has_any (bs.getD k 0) (x.2.getD k 0) wr (by omega) (by omega))
        have HK : Hid (hitK bs x.2 (k + 1) = hitK bs x.2 k + (if (bs.getD k 0).testBit (x.2.getD k 0) then 1 else 0)) := rfl
        generalize hitK bs x.2 k = hk0 at *
        generalize bs.getD k 0 = r at *
        generalize x.2.getD k 0 = j at *
        gi_wp2_with fail
        refine ⟨trivial, (CallsIn.inRound l' (callsIn_wide.2 HC'.out)).mono ?_⟩
        rintro e w' ⟨rfl, rfl⟩
        clear HC'
        cases hbt : r.testBit j with
        | true =>
          rw [hbt] at HK
          gi_wp2_with fail
          exact ⟨⟨trivial, k + 1, by omega, by go_num, by rw [HK.out]; simp⟩, by simp [intOf]; omega⟩
        | false =>
          rw [hbt] at HK
          gi_wp2_with fail
          exact ⟨⟨trivial, k + 1, by omega, by go_num, by rw [HK.out]; simp⟩, by simp [intOf]; omega⟩
      · have hkn : k = n := by omega
        have hle' : hitK bs x.2 k ≤ n := by omega
        obtain ⟨hcw, hfw⟩ := HI.out.cell (k := hitK bs x.2 k) (by rw [foldl_length _ (hit1_length bs), List.length_replicate]; omega)
        have hh0 : (0:Int) ≤ (hitK bs x.2 k : Nat) := by omega
        have hh1 : ((hitK bs x.2 k : Nat) : Int) < (n:Int) + 1 := by omega
        have HS := Lib.hid (HI.out.set (hitK bs x.2 k) (wrap64 (((pre.map (·.2)).foldl (hit1 bs) (List.replicate (n + 1) 0)).getD (hitK bs x.2 k) 0 + 1)))
        have HE : Hid (((pre ++ [x]).map (·.2)).foldl (hit1 bs) (List.replicate (n + 1) 0) = ((pre.map (·.2)).foldl (hit1 bs) (List.replicate (n + 1) 0)).set (hitK bs x.2 k) (wrap64 (((pre.map (·.2)).foldl (hit1 bs) (List.replicate (n + 1) 0)).getD (hitK bs x.2 k) 0 + 1))) := Lib.hid (by
          rw [List.map_append, List.foldl_append, hkn, ← HLn.out]; rfl)
        have hgk : ¬ (k:Int) < (n:Int) := by omega
        clear hkn hle hle'
        generalize ((pre.map (·.2)).foldl (hit1 bs) (List.replicate (n + 1) 0)) = ws at *
        generalize ws.getD (hitK bs x.2 k) 0 = u at *
        generalize hitK bs x.2 k = hk0 at *
        gi_wp2_with fail
        refine ⟨(Mod.refl (· = w.heap.size + 1) wr).setCell (.inl rfl) _, ?_, HM.out.setCell (.inl rfl) _⟩
        rw [HE.out]
        exact HS.out
  case done =>
    rintro D xs W hD hS ⟨hIW, hMW⟩ hK
    rw [hS, HAll.out] at hIW
    have hIF : IBlk W (w.heap.size + 1) (hitsL bs) := by unfold hitsL; rw [HLn.out]; exact hIW
    obtain ⟨c0, c2, hB6⟩ := HC.out
    have k2 : W.cell? ⟨w.heap.size + 1 + 1, 0, none⟩ = some (.slice (some ⟨w.heap.size + 1, 0, none⟩) (n + 1) (n + 1)) := mod_cell hMW (a := ⟨w.heap.size + 1 + 1, 0, none⟩) (by show w.heap.size + 1 + 1 ≠ _; omega) c2
    gi_wp2_with fail
    refine ⟨by simp, .inl ⟨_, _, rfl, run_takeDeferred hK, ?_⟩⟩
    refine ⟨_, results_tmp2 rfl _ _ _, _, rfl, hIF.mod (World.putObj_heap_other (by omega)), ?_⟩
    have hBW : Below w.heap.size w W := ⟨hMW.os.trans hB6.os, hMW.tape.trans hB6.tape, hMW.output.trans hB6.output, Nat.le_trans hB6.size hMW.size, fun k hk => (hMW.block k (by omega) (by omega)).trans (hB6.block k hk)⟩
    exact hBW.trans (putObj_below W _ _ (by omega) hK)
  case stop =>
    rintro D pre W _ _ h _
    exact h.elim

set_option maxHeartbeats 1000000 in
theorem Hits_bad (v : Value) (xs : List Int) (w : World) (hb : boardB xs = false) (h : Ints w v xs) :
    Calls Tryd.prog 17 #[v] w fun e w' => e = .returned (.tuple #[.slice none 0 0, .int .i64 2]) ∧ Below w.heap.size w w' := by
  obtain ⟨ao, cap, rfl, _, _, _⟩ := h.open
  have hB0 : Below w.heap.size w (w.alloc (.cells #[.slice ao xs.length cap] 22)) := (Below.refl _ w).alloc (Nat.le_refl _) _
  have HB := Lib.hid (isBoard_any _ xs _ (h.below hB0 (Nat.le_refl _)))
  rw [hb] at HB
  have HB0 := Lib.hid hB0
  clear h hB0
  go_enter Tryd.func17, Tryd.ntmps17
  go_wp2_with fail
  refine HB.out.mono ?_
  rintro e w' ⟨rfl, rfl⟩
  go_wp2
  go_ret2
  exact ⟨rfl, HB0.out⟩

theorem hit1_I64 (bs : List Nat) (v : List Int) (p : List Nat) (h : ∀ x ∈ v, I64 x) : ∀ x ∈ hit1 bs v p, I64 x := fun x hx => by
  rcases List.mem_or_eq_of_mem_set hx with hx | rfl
  · exact h x hx
  · exact wrap_I64 _
theorem hitsL_I64 (bs : List Nat) : ∀ x ∈ hitsL bs, I64 x := by
  have : ∀ (ps : List (List Nat)) (v : List Int), (∀ x ∈ v, I64 x) → ∀ x ∈ ps.foldl (hit1 bs) v, I64 x := by
    intro ps
    induction ps with
    | nil => exact fun v hv => hv
    | cons p ps ih => exact fun v hv => ih _ (hit1_I64 bs v p hv)
  exact this _ _ fun x hx => by
    have := List.eq_of_mem_replicate hx
    subst this
    unfold I64; omega
theorem Hits_val (v : Value) (bs : List Nat) (n : Nat) (w : World) (hb : Brd n bs) (h : Nats w v bs) (hT : Tab w) :
    Calls Tryd.prog 17 #[v] w fun e w' => ∃ A, e = .returned (.tuple #[.slice (some ⟨A, 0, none⟩) (n + 1) (n + 1), .int .i64 0]) ∧ Ints w' (.slice (some ⟨A, 0, none⟩) (n + 1) (n + 1)) (hitsL bs) ∧ Below w.heap.size w w' :=
  (Hits_any v bs n w hb h hT).mono fun _ _ ⟨A, he, hI, hb'⟩ => ⟨A, he, by
    have := hI.ints (by rw [hitsL_length, hb.len]; have := hb.le; omega) (hitsL_I64 bs)
    rwa [hitsL_length, hb.len] at this, hb'⟩
end Go.Proofs.YtellnklbkjajbaaDoor
