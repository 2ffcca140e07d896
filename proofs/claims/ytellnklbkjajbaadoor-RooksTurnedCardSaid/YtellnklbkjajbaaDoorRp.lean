/- rookNumbers' closure: every call -/
import Derived.Test.YtellnklbkjajbaaDoorRd
namespace Go.Proofs.YtellnklbkjajbaaDoor
open Go.RowKit Go.Shelf
attribute [local go_sem] Oper.semAt_some

theorem IBlk.mod {w w' : World} {A : Nat} {vs : List Int} (h : IBlk w A vs) (hb : w'.heap[A]? = w.heap[A]?) : IBlk w' A vs := hb.trans h
theorem Mod.grown {S : Nat → Prop} {a w w' : World} {row : Option Nat} (h : Mod S a w) (hg : w.grownBy w' row) (hr : ∀ k, row = some k → a.heap.size ≤ k) : Mod S a w' :=
  ⟨hg.os.trans h.os, hg.tape.trans h.tape, hg.output.trans h.output, Nat.le_trans h.size hg.size, fun k hk hn =>
    (hg.block k (Nat.lt_of_lt_of_le hk h.size) fun e => by have := hr k e.symm; omega).trans (h.block k hk hn)⟩

theorem cell_new (w : World) (x : Value) (t : TypeId) : (w.alloc (.cells #[x] t)).cell? ⟨w.heap.size, 0, none⟩ = some x := newOne w x t 0 x rfl
theorem box3_c (w : World) (i tk k : Nat) : (box3 w i tk k).cell? ⟨w.heap.size, 0, none⟩ = some (.int .i64 i) ∧ (box3 w i tk k).cell? ⟨w.heap.size + 1, 0, none⟩ = some (.int .i64 tk) ∧ (box3 w i tk k).cell? ⟨w.heap.size + 1 + 1, 0, none⟩ = some (.int .i64 k) ∧ (box3 w i tk k).heap.size = w.heap.size + 1 + 1 + 1 := by
  have h0 := cell_new w (.int .i64 i) 3
  have h1 := cell_new (w.alloc (.cells #[.int .i64 i] 3)) (.int .i64 tk) 3
  have h2 := cell_new ((w.alloc (.cells #[.int .i64 i] 3)).alloc (.cells #[.int .i64 tk] 3)) (.int .i64 k) 3
  rw [World.size_alloc] at h1
  rw [World.size_alloc, World.size_alloc] at h2
  refine ⟨?_, ?_, h2, ?_⟩
  · exact (World.cell?_of_block (Below.heap_alloc _ _ _ (by simp; omega))).trans ((World.cell?_of_block (Below.heap_alloc _ _ _ (by simp))).trans h0)
  · exact (World.cell?_of_block (Below.heap_alloc _ _ _ (by simp))).trans h1
  · rw [World.size_alloc, World.size_alloc, World.size_alloc]
theorem andNot_sub (a b : Nat) (ha : a < 64) (hb : b < 64) : bits .andNot .i64 (a : Int) (b : Int) = ((sub a b : Nat) : Int) := i64_andNot a b (by omega) (by omega)

set_option maxRecDepth 100000 in
set_option maxHeartbeats 1000000 in
theorem place_step (bs : List Nat) (A Bb Bw Bp i tk k m : Nat) (vs : List Int) (w : World) (hE : RkEnv bs A Bb Bw Bp w) (hB : IBlk w A vs) (hk : k ≤ i) (hi : i + (m + 1) = bs.length) (hl : vs.length = bs.length + 1) (hA : A ≠ 1)
    (hbs : ∀ x ∈ bs, x < 64) (hn : bs.length ≤ 6) (htk : tk < 64)
    (IH : ∀ (tk k : Nat) (vs : List Int) (w : World), RkEnv bs A Bb Bw Bp w → IBlk w A vs → k ≤ i + 1 → vs.length = bs.length + 1 → tk < 64 →
      Calls Tryd.prog 77 #[.int .i64 ((i : Int) + 1), .int .i64 tk, .int .i64 k, .pointer (some ⟨Bb, 0, none⟩), .pointer (some ⟨Bw, 0, none⟩), .pointer (some ⟨Bp, 0, none⟩)] w fun e w' =>
        (∃ v, e = .returned v) ∧ IBlk w' A (rk (bs.drop (i + 1)) tk k vs) ∧ Mod (· = A) w w') :
    Calls Tryd.prog 77 #[.int .i64 i, .int .i64 tk, .int .i64 k, .pointer (some ⟨Bb, 0, none⟩), .pointer (some ⟨Bw, 0, none⟩), .pointer (some ⟨Bp, 0, none⟩)] w fun e w' =>
      (∃ v, e = .returned v) ∧ IBlk w' A (rk (bs.drop i) tk k vs) ∧ Mod (· = A) w w' := by
  have hM0 := box3_mod (· = A) w i tk k
  obtain ⟨_, ⟨ao, cap, hb, hcap, _⟩, hw, hp⟩ := hE (box3 w i tk k) hM0
  have HI1 := Lib.hid (IH tk k vs (box3 w i tk k) (hE.mod hM0) (((hB.alloc _).alloc _).alloc _) (by omega) hl htk)
  have HE := Lib.hid hE
  have HIH := Lib.hid IH
  have hne : ((i:Int) == (bs.length:Int)) = false := by simp; omega
  have hi1 : wrap64 ((i:Int) + 1) = ((i + 1 : Nat) : Int) := by unfold wrap64; omega
  have HM0 := Lib.hid hM0
  clear hE IH hM0
  refine (callsIn_wide (n := 9)).1 ?_
  refine callsIn_of_wp_marks Tryd.func77 rfl trivial ?_ rfl
  simp only [Tryd.ntmps77, List.size_toArray, List.length_cons, List.length_nil, Nat.reduceAdd, Nat.reduceSub, Array.replicate_succ, Array.replicate_zero, List.push_toArray, List.append_toArray, List.nil_append, List.cons_append]
  gi_wp2_with fail
  refine ⟨trivial, (callsIn_wide.2 HI1.out).mono ?_⟩
  rintro e w1 ⟨⟨rv, rfl⟩, hB1, hM1⟩
  have HM1 := Lib.hid (HM0.out.trans hM1 fun _ h => .inl h)
  have HB1 := Lib.hid hB1
  have lt : A < w.heap.size := hB.lt
  obtain ⟨d6, d7, d8, dz⟩ := box3_c w i tk k
  have c6 := (World.cell?_of_block (a := ⟨w.heap.size, 0, none⟩) (hM1.block w.heap.size (by omega) (by omega))).trans d6
  have c7 := (World.cell?_of_block (a := ⟨w.heap.size + 1, 0, none⟩) (hM1.block (w.heap.size + 1) (by omega) (by omega))).trans d7
  have c8 := (World.cell?_of_block (a := ⟨w.heap.size + 1 + 1, 0, none⟩) (hM1.block (w.heap.size + 1 + 1) (by omega) (by omega))).trans d8
  obtain ⟨hT1, ⟨ao1, cap1, hb1, hcap1, hel⟩, _, hp1⟩ := HE.out w1 HM1.out
  obtain ⟨b0, o0, rfl, hel0⟩ := hel i (by omega)
  have hr : bs.getD i 0 < 64 := hbs _ (natD_mem (by omega))
  have HR : Hid (rk (bs.drop i) tk k vs = (elems (sub (bs.getD i 0) tk)).foldl (fun v j => rk (bs.drop (i+1)) (tk ||| 2 ^ j) (k + 1) v) (rk (bs.drop (i+1)) tk k vs)) := by
    have e : bs[i]'(by omega) = bs.getD i 0 := by simp [show i < bs.length by omega]
    refine Lib.hid ?_
    rw [List.drop_eq_getElem_cons (by omega : i < bs.length), rk, e]
  have HT1 := Lib.hid hT1
  have hsz : A < w1.heap.size := hB1.lt
  have HC : Hid (w1.cell? ⟨w.heap.size, 0, none⟩ = some (.int .i64 i) ∧ w1.cell? ⟨w.heap.size + 1, 0, none⟩ = some (.int .i64 tk) ∧ w1.cell? ⟨w.heap.size + 1 + 1, 0, none⟩ = some (.int .i64 k) ∧ w1.cell? ⟨Bp, 0, none⟩ = some (.func (.func 77) #[] #[.pointer (some ⟨Bb, 0, none⟩), .pointer (some ⟨Bw, 0, none⟩), .pointer (some ⟨Bp, 0, none⟩)])) := ⟨c6, c7, c8, hp1⟩
  generalize bs.getD i 0 = r at *
  clear hb hw hp hB hM1 hB1 HI1 HM0 hel hT1 d6 d7 d8 dz hp1 c8
  gi_wp2_with fail
  refine wpIn_wide.2 ?_
  have b0' := Below.refl w1.heap.size w1
  have hix0 : (0:Int) ≤ (i:Int) := by omega
  have hix1 : (i:Int) < (bs.length:Int) := by omega
  go_region_held3 ((fun w' => w'.cell? ⟨Bb, 0, none⟩ = some (.slice (some ⟨b0, o0, none⟩) bs.length cap1) ∧ w'.cell? ⟨b0, o0 + i, none⟩ = some (.int .i64 r) ∧ w'.cell? ⟨w.heap.size, 0, none⟩ = some (.int .i64 i) ∧ w'.cell? ⟨w.heap.size + 1, 0, none⟩ = some (.int .i64 tk) ∧ Below w1.heap.size w1 w'))
    ((first | exact ⟨hb1, hel0, c6, c7, b0'.drew⟩ | (obtain ⟨k1, k2, k3, k4, k5⟩ := (show _ ∧ _ ∧ _ ∧ _ ∧ _ by assumption); have k6 := k5.alloc (Nat.le_refl _) (.cells #[.int .i64 (bits .andNot .i64 (r:Int) (tk:Int))] 3); exact ⟨ck hb1 k6, ck hel0 k6, ck c6 k6, ck c7 k6, k6⟩)))
    ((go_at_call 59; refine (elements_any _ _).mono ?_; rintro e w' ⟨rfl, rfl⟩))
  rename_i hH
  have hB2 := hH.2.2.2.2
  clear hH hb1 hel0 c6 c7 b0' hix0 hix1
  rw [andNot_sub r tk hr htk] at *
  have hx64 : sub r tk < 64 := sub_le r tk 6 hr
  have cS : ((w1.alloc (.cells #[.int .i64 (sub r tk : Nat)] 3)).drew).cell? ⟨w1.heap.size, 0, none⟩ = some (.int .i64 (sub r tk : Nat)) := cell_new w1 _ 3
  have hs2 : ((w1.alloc (.cells #[.int .i64 (sub r tk : Nat)] 3)).drew).heap.size = w1.heap.size + 1 := World.size_alloc _ _
  generalize ((w1.alloc (.cells #[.int .i64 (sub r tk : Nat)] 3)).drew) = w2 at *
  gi_wp2_with fail
  have hM12 : Mod (· = A) w1 w2 := Mod.of_below hB2
  have hT2 : Tab w2 := TabK.mod hA hM12 HT1.out
  have hIB2 : IBlk w2 A (rk (bs.drop (i + 1)) tk k vs) := HB1.out.mod (hB2.block A hsz)
  have hA2 : A < w2.heap.size := hIB2.lt
  refine wpIn_rangeFunc_ownG rfl (by decide) (gf := 81) (lb := #[.pointer (some ⟨w1.heap.size, 0, none⟩)]) rfl trivial (enters_of Tryd.func81 (by kernel_rfl) rfl)
    (elems_stops 8 (sub r tk) hx64 w1.heap.size w2 cS hT2) TabK.t (fun W l o o' _ h ho _ => TabK.b W l o o' h ho) (Below.refl _ _) (fun _ => rfl)
    (fun pre W => IBlk W A ((pre.map (·.1)).foldl (fun v j => rk (bs.drop (i+1)) (tk ||| 2 ^ j) (k + 1) v) (rk (bs.drop (i+1)) tk k vs)) ∧ Mod (· = A) w2 W)
    (fun _ _ _ => False)
    (fun s X Y row hs hg hr => ⟨hs.1.mod (hg.block A hs.1.lt fun e => by have := (hr A e.symm).1; omega), hs.2.grown hg fun k e => (hr k e).1⟩)
    (fun _ _ _ _ _ hs _ _ => hs)
    ⟨hIB2, Mod.refl _ _⟩
    (fun x => { tmps := #[.int .i64 i, .int .i64 tk, .int .i64 k, .pointer (some ⟨Bb, 0, none⟩), .pointer (some ⟨Bw, 0, none⟩), .pointer (some ⟨Bp, 0, none⟩), .pointer (some ⟨w.heap.size, 0, none⟩), .pointer (some ⟨w.heap.size + 1, 0, none⟩), .pointer (some ⟨w.heap.size + 1 + 1, 0, none⟩), .int .i64 x.1, .int .i64 i,
      .slice ao bs.length cap, .int .i64 bs.length, .bool false, undef, undef, undef, undef, undef, undef, .func (.func 77) #[] #[.pointer (some ⟨Bb, 0, none⟩), .pointer (some ⟨Bw, 0, none⟩), .pointer (some ⟨Bp, 0, none⟩)], .int .i64 i, .int .i64 ((i:Int) + 1), .int .i64 tk, .int .i64 k,
      rv, .slice (some ⟨b0, o0, none⟩) bs.length cap1, .int .i64 i, .pointer (some ⟨b0, o0 + i, none⟩), .int .i64 r, .int .i64 tk, .int .i64 (sub r tk : Nat), .func (.func 81) #[] #[.pointer (some ⟨w1.heap.size, 0, none⟩)], .int .i64 x.1, undef, undef, undef, undef, undef, undef, undef, undef, undef, undef], defers := [] }) ?assign ?body ?done ?stop
  case assign =>
    intro l x W K hK
    gi_wp2
    exact hK
  case body =>
    rintro l pre x W ⟨hIB, hMW⟩ hlen
    have hM1W : Mod (· = A) w1 W := hM12.trans hMW fun _ h => .inl h
    have hMwW : Mod (· = A) w W := HM1.out.trans hM1W fun _ h => .inl h
    have HEW := Lib.hid (HE.out.mod hMwW)
    obtain ⟨d6, d7, d8, _⟩ := HC.out
    have hlt6 := World.block_lt_of_cell? w1 _ d6
    have hlt7 := World.block_lt_of_cell? w1 _ d7
    have hlt8 := World.block_lt_of_cell? w1 _ d8
    have c6 := (World.cell?_of_block (a := ⟨w.heap.size, 0, none⟩) (hM1W.block w.heap.size hlt6 (by omega))).trans d6
    have c7 := (World.cell?_of_block (a := ⟨w.heap.size + 1, 0, none⟩) (hM1W.block (w.heap.size + 1) hlt7 (by omega))).trans d7
    have c8 := (World.cell?_of_block (a := ⟨w.heap.size + 1 + 1, 0, none⟩) (hM1W.block (w.heap.size + 1 + 1) hlt8 (by omega))).trans d8
    obtain ⟨_, _, _, hp⟩ := HEW.out W (Mod.refl _ _)
    have hmx : Tryd.prog.follows .mixedOrders = true := by kernel_rfl
    have hd : 1 ≤ 9 - 1 - 1 := by omega
    clear d6 d7 d8 hlt6 hlt7 hlt8
    have hW2 : w2.heap.size ≤ W.heap.size := hMW.size
    have hx6 := x.2.2
    have hp2 : 2 ^ x.1 ≤ 2 ^ 5 := Nat.pow_le_pow_right (by decide) (by omega)
    have e1 : IntKind.i64.wrap ((i:Int) + 1) = (i:Int) + 1 := i64_of (by omega) (by omega)
    have e2 : IntKind.i64.wrap ((k:Int) + 1) = ((k + 1 : Nat) : Int) := i64_of (by omega) (by omega)
    have e3 : IntKind.i64.wrap ((2:Int) ^ x.1) = ((2 ^ x.1 : Nat) : Int) := by rw [pw_cast]; exact i64_of (by have := pw_bd x.1 (by omega); omega) (by have := pw_bd x.1 (by omega); omega)
    have e4 : bits .or .i64 (tk:Int) ((2 ^ x.1 : Nat) : Int) = ((tk ||| 2 ^ x.1 : Nat) : Int) := i64_or _ _ (by omega) (by omega)
    have hor : tk ||| 2 ^ x.1 < 2 ^ 6 := Nat.or_lt_two_pow htk (by omega)
    have HCALL : Hid (Calls Tryd.prog 77 #[.int .i64 ((i:Int) + 1), .int .i64 (tk ||| 2 ^ x.1 : Nat), .int .i64 ((k:Int) + 1),
        .pointer (some ⟨Bb, 0, none⟩), .pointer (some ⟨Bw, 0, none⟩), .pointer (some ⟨Bp, 0, none⟩)] W.drew fun e w' => (∃ v, e = .returned v) ∧ (w'.cell? ⟨w.heap.size, 0, none⟩ = some (.int .i64 i) ∧ w'.cell? ⟨w.heap.size + 1, 0, none⟩ = some (.int .i64 tk) ∧ w'.cell? ⟨w.heap.size + 1 + 1, 0, none⟩ = some (.int .i64 k) ∧ w'.cell? ⟨Bp, 0, none⟩ = some (.func (.func 77) #[] #[.pointer (some ⟨Bb, 0, none⟩), .pointer (some ⟨Bw, 0, none⟩), .pointer (some ⟨Bp, 0, none⟩)])) ∧ KeepsFrom w2.heap.size W w' ∧ TabK W w' ∧
          (IBlk w' A (((pre ++ [x]).map (·.1)).foldl (fun v j => rk (bs.drop (i+1)) (tk ||| 2 ^ j) (k + 1) v) (rk (bs.drop (i+1)) tk k vs)) ∧ Mod (· = A) w2 w')) := by
      refine Lib.hid ((HIH.out (tk ||| 2 ^ x.1) (k + 1) _ W.drew (HEW.out.mod (Mod.refl _ W).drew) hIB (by omega) (by rw [foldl_length _ (fun v j => rk_length _ _ _ v), rk_length]; exact hl) hor).mono ?_)
      rintro e w' ⟨hv, hb', hm'⟩
      have hmW : Mod (· = A) W w' := (Mod.refl (· = A) W).drew.trans hm' fun _ h => .inl h
      have hc (a : Nat) (v : Value) (h : W.cell? ⟨a, 0, none⟩ = some v) (ha : a ≠ A) : w'.cell? ⟨a, 0, none⟩ = some v := (World.cell?_of_block (a := ⟨a, 0, none⟩) (hmW.block a (World.block_lt_of_cell? W _ h) ha)).trans h
      refine ⟨hv, ⟨hc _ _ c6 (by omega), hc _ _ c7 (by omega), hc _ _ c8 (by omega), ((HEW.out w' hmW).2.2.2)⟩, ⟨hmW.size, fun kk o hge hh _ => (hmW.block kk (Array.getElem?_eq_some_iff.1 hh).1 (by omega)).trans hh⟩, TabK.mod hA hmW, ?_, hMW.trans hmW fun _ h => .inl h⟩
      rw [List.map_append, List.foldl_append]
      exact hb'
    clear hor hp2 hx6 HEW hM1W hMwW HIH HE HC HM1 HB1 hIB hMW hW2 hB2 cS hs2 hM12 hT2 hIB2 hA2 HR
    gi_wp2_with fail
    refine round_region_held (fun w' => w'.cell? ⟨w.heap.size, 0, none⟩ = some (.int .i64 i) ∧ w'.cell? ⟨w.heap.size + 1, 0, none⟩ = some (.int .i64 tk) ∧ w'.cell? ⟨w.heap.size + 1 + 1, 0, none⟩ = some (.int .i64 k) ∧ w'.cell? ⟨Bp, 0, none⟩ = some (.func (.func 77) #[] #[.pointer (some ⟨Bb, 0, none⟩), .pointer (some ⟨Bw, 0, none⟩), .pointer (some ⟨Bp, 0, none⟩)]))
      hmx (by rintro ⟨_, _, h⟩; exact h) (by kernel_rfl) ⟨c6, c7, c8, hp⟩ (fun hS0 => ?_)
    refine wpAnyH_take (i := 0) (v := .func (.func 77) #[] #[.pointer (some ⟨Bb, 0, none⟩), .pointer (some ⟨Bw, 0, none⟩), .pointer (some ⟨Bp, 0, none⟩)]) rfl (by kernel_rfl) (by kernel_rfl) (by kernel_rfl) (fun _ _ _ h => h) (Or.inl ⟨by rfl, ?_⟩) hS0 ?_
    · intro w' hSw
      go_simp
    simp only [Act.put]
    refine wpAnyH_take (i := 1) (v := .int .i64 i) rfl (by kernel_rfl) (by kernel_rfl) (by kernel_rfl) (fun _ _ _ h => h) (Or.inl ⟨by rfl, ?_⟩) hS0 ?_
    · intro w' hSw
      go_simp
    simp only [Act.put]
    refine wpAnyH_take (i := 2) (v := .int .i64 ((i:Int) + 1)) rfl (by kernel_rfl) (by kernel_rfl) (by kernel_rfl) (fun _ _ _ h => h) (Or.inl ⟨by rfl, ?_⟩) hS0 ?_
    · intro w' hSw
      go_simp
    simp only [Act.put]
    refine wpAnyH_take (i := 3) (v := .int .i64 tk) rfl (by kernel_rfl) (by kernel_rfl) (by kernel_rfl) (fun _ _ _ h => h) (Or.inl ⟨by rfl, ?_⟩) hS0 ?_
    · intro w' hSw
      go_simp
    simp only [Act.put]
    refine wpAnyH_take (i := 4) (v := .int .i64 x.1) rfl (by kernel_rfl) (by kernel_rfl) (by kernel_rfl) (fun _ _ _ h => h) (Or.inl ⟨by rfl, ?_⟩) hS0 ?_
    · intro w' hSw
      go_simp
    simp only [Act.put]
    refine wpAnyH_take (i := 5) (v := .int .i64 (2 ^ x.1 : Nat)) rfl (by kernel_rfl) (by kernel_rfl) (by kernel_rfl) (fun _ _ _ h => h) (Or.inl ⟨by rfl, ?_⟩) hS0 ?_
    · intro w' hSw
      go_simp
    simp only [Act.put]
    refine wpAnyH_take (i := 6) (v := .int .i64 (tk ||| 2 ^ x.1 : Nat)) rfl (by kernel_rfl) (by kernel_rfl) (by kernel_rfl) (fun _ _ _ h => h) (Or.inl ⟨by rfl, ?_⟩) hS0 ?_
    · intro w' hSw
      go_simp
      rw [← pw_cast]
      exact e4
    simp only [Act.put]
    refine wpAnyH_take (i := 7) (v := .int .i64 k) rfl (by kernel_rfl) (by kernel_rfl) (by kernel_rfl) (fun _ _ _ h => h) (Or.inl ⟨by rfl, ?_⟩) hS0 ?_
    · intro w' hSw
      go_simp
    simp only [Act.put]
    refine wpAnyH_take (i := 8) (v := .int .i64 (k + 1 : Nat)) rfl (by kernel_rfl) (by kernel_rfl) (by kernel_rfl) (fun _ _ _ h => h) (Or.inl ⟨by rfl, ?_⟩) hS0 ?_
    · intro w' hSw
      go_simp
    simp only [Act.put]
    refine wpAnyH_ready (rs := [9]) (by kernel_rfl) (by simp) (AllReadyH.cons rfl (fun K hK => ?_) AllReadyH.nil)
    go_simp
    refine HCALL.out.mono ?_
    rintro e w' ⟨⟨rv', rfl⟩, hkeep, hpost⟩
    exact hK.out _ _ hkeep fun _ => wpAnyH_done (by kernel_rfl) hpost _
  case done =>
    rintro D xs W hD hS ⟨hIB, hMW⟩ hK
    rw [hS] at hIB
    gi_wp2
    refine ⟨by simp, .inl ⟨_, _, rfl, run_takeDeferred hK, ?_⟩⟩
    have hM1W : Mod (· = A) w1 W := hM12.trans hMW fun _ h => .inl h
    have hMwW : Mod (· = A) w W := HM1.out.trans hM1W fun _ h => .inl h
    refine ⟨_, results_none rfl _ _ _, ⟨_, rfl⟩, ?_, hMwW.grown (grownBy_putObj' W D _) fun kk e => by cases e; have := HM1.out.size; omega⟩
    rw [HR.out]
    exact hIB.mod (World.putObj_heap_other (by omega))
  case stop =>
    rintro D c pre W _ _ h _
    exact h.elim
end Go.Proofs.YtellnklbkjajbaaDoor
