/- permutations' inner closure: the step -/
import Derived.Test.YtellnklbkjajbaaDoorPa
import Derived.Test.YtellnklbkjajbaaDoorWi
namespace Go.Proofs.YtellnklbkjajbaaDoor
open Go.RowKit Go.Shelf
attribute [local go_sem] Oper.semAt_some

theorem sub_le8 (a b : Nat) (h : a < 256) : sub a b < 256 := sub_le a b 8 h
theorem andNot_sub8 (a b : Nat) (ha : a < 256) (hb : b < 256) : bits .andNot .i64 (a : Int) (b : Int) = ((sub a b : Nat) : Int) := i64_andNot a b (by omega) (by omega)

set_option maxRecDepth 100000 in
set_option maxHeartbeats 2000000 in
theorem perm_step (rs : List Nat) (A l Bp By Br Bc Pb B0 tk i m : Nat) (J Jx : List (Nat × List Nat) → World → Prop) (pre : List (Nat × List Nat)) (q : List Nat) (w : World)
    (hJ : ∀ s X Y, J s X → Below B0 X Y → J s Y) (hJx : ∀ s X Y, Jx s X → Below B0 X Y → Jx s Y)
    (hE : PmEnv rs A l Bp By Br Bc Pb w) (hP : Holds w Pb rs.length q) (h0 : J pre w) (hq : q.length = i) (hq8 : ∀ j ∈ q, j < 8) (hA : A < B0) (hA1 : A ≠ 1) (hPb : B0 ≤ Pb) (hB0 : B0 ≤ w.heap.size) (hi : i + (m + 1) = rs.length)
    (hBc : B0 ≤ Bc) (hBcP : Bc ≠ Pb)
    (hrs : ∀ x ∈ rs, x < 256) (hn : rs.length ≤ 8) (htk : tk < 256) (h1 : 1 < B0)
    (IH : ∀ (tk : Nat) (pre : List (Nat × List Nat)) (q : List Nat) (w : World), PmEnv rs A l Bp By Br Bc Pb w → Holds w Pb rs.length q → J pre w → q.length = i + 1 → (∀ j ∈ q, j < 8) → B0 ≤ w.heap.size → tk < 256 →
      Calls Tryd.prog 79 #[.int .i64 ((i : Int) + 1), .int .i64 tk, .pointer (some ⟨Bp, 0, none⟩), .pointer (some ⟨By, 0, none⟩), .pointer (some ⟨Br, 0, none⟩), .pointer (some ⟨Bc, 0, none⟩)] w (PmPost rs A Pb B0 J Jx pre tk q (i + 1) w)) :
    Calls Tryd.prog 79 #[.int .i64 i, .int .i64 tk, .pointer (some ⟨Bp, 0, none⟩), .pointer (some ⟨By, 0, none⟩), .pointer (some ⟨Br, 0, none⟩), .pointer (some ⟨Bc, 0, none⟩)] w (PmPost rs A Pb B0 J Jx pre tk q i w) := by
  have hM0 := box2_mod (Two A Pb) w i tk
  have hb2 := box2_below w i tk
  obtain ⟨d6, d7, d8, dz⟩ := box2_c w i tk
  obtain ⟨hT1, hp, _, ⟨ao, cap, hrow, hcap, hel⟩, hpl⟩ := hE (box2 w i tk) hM0
  obtain ⟨b0, o0, rfl, hel0⟩ := hel i (by omega)
  have hr : rs.getD i 0 < 256 := hrs _ (natD_mem (by omega))
  have HR : Hid (permsF (rs.drop i) tk q = (elem8 (sub (rs.getD i 0) tk)).flatMap fun j => permsF (rs.drop (i + 1)) (tk ||| 2 ^ j) (q ++ [j])) := by
    have e : rs[i]'(by omega) = rs.getD i 0 := by simp [show i < rs.length by omega]
    refine Lib.hid ?_
    rw [List.drop_eq_getElem_cons (by omega : i < rs.length), permsF, e]
  have hlt : Pb < w.heap.size := hP.lt
  have HH1 := Lib.hid (hP.mod (hb2.block Pb hlt))
  have HJ1 := Lib.hid (hJ _ _ _ h0 (hb2.mono hB0))
  have HE := Lib.hid hE
  have HIH := Lib.hid IH
  have HM0 := Lib.hid hM0
  have HT1 := Lib.hid hT1
  have HC : Hid ((box2 w i tk).cell? ⟨w.heap.size, 0, none⟩ = some (.int .i64 i) ∧ (box2 w i tk).cell? ⟨w.heap.size + 1, 0, none⟩ = some (.int .i64 tk) ∧ (box2 w i tk).heap[w.heap.size + 1 + 1]? = some (.cells #[.bool false] 4 (0, 0))) := ⟨d6, d7, d8⟩
  have hne : ((i:Int) == (rs.length:Int)) = false := by simp; omega
  generalize rs.getD i 0 = r at *
  clear hE IH hM0 hP h0 hel hT1 hb2
  refine (callsIn_wide (n := 9)).1 ?_
  refine callsIn_of_wp_marks Tryd.func79 rfl trivial ?_ rfl
  simp only [Tryd.ntmps79, List.size_toArray, List.length_cons, List.length_nil, Nat.reduceAdd, Nat.reduceSub, Array.replicate_succ, Array.replicate_zero, List.push_toArray, List.append_toArray, List.nil_append, List.cons_append]
  gi_wp2_with fail
  refine wpIn_wide.2 ?_
  dsimp only [box2] at *
  generalize (((w.alloc (.cells #[.int .i64 i] 3)).alloc (.cells #[.int .i64 tk] 3)).alloc (.cells #[.bool false] 4)) = w1 at *
  have b0' := Below.refl w1.heap.size w1
  have hix0 : (0:Int) ≤ (i:Int) := by omega
  have hix1 : (i:Int) < (rs.length:Int) := by omega
  go_region_held3 ((fun w' => w'.cell? ⟨Br, 0, none⟩ = some (.slice (some ⟨b0, o0, none⟩) rs.length cap) ∧ w'.cell? ⟨b0, o0 + i, none⟩ = some (.int .i64 r) ∧ w'.cell? ⟨w.heap.size, 0, none⟩ = some (.int .i64 i) ∧ w'.cell? ⟨w.heap.size + 1, 0, none⟩ = some (.int .i64 tk) ∧ Below w1.heap.size w1 w'))
    ((first | exact ⟨hrow, hel0, d6, d7, b0'.drew⟩ | (obtain ⟨k1, k2, k3, k4, k5⟩ := (show _ ∧ _ ∧ _ ∧ _ ∧ _ by assumption); have k6 := k5.alloc (Nat.le_refl _) (.cells #[.int .i64 (bits .andNot .i64 (r:Int) (tk:Int))] 3); exact ⟨ck hrow k6, ck hel0 k6, ck d6 k6, ck d7 k6, k6⟩)))
    ((go_at_call 59; refine (elements_any _ _).mono ?_; rintro e w' ⟨rfl, rfl⟩))
  rename_i hH
  have hB2 := hH.2.2.2.2
  clear hH hrow hel0 b0' hix0 hix1 hp hpl
  rw [andNot_sub8 r tk hr htk]
  have hx8 : sub r tk < 256 := sub_le8 r tk hr
  have cS : ((w1.alloc (.cells #[.int .i64 (sub r tk : Nat)] 3)).drew).cell? ⟨w1.heap.size, 0, none⟩ = some (.int .i64 (sub r tk : Nat)) := cell_new w1 _ 3
  have hs2 : ((w1.alloc (.cells #[.int .i64 (sub r tk : Nat)] 3)).drew).heap.size = w1.heap.size + 1 := World.size_alloc _ _
  rw [andNot_sub8 r tk hr htk] at hB2
  generalize ((w1.alloc (.cells #[.int .i64 (sub r tk : Nat)] 3)).drew) = w2 at *
  gi_wp2_with fail
  have hM12 : Mod (Two A Pb) w1 w2 := Mod.of_below hB2
  have hMw2 : Mod (Two A Pb) w w2 := HM0.out.trans hM12 fun _ h => .inl h
  have hT2 : Tab w2 := tab_block HT1.out (hB2.block 1 (tab_lt HT1.out))
  have hws : w.heap.size ≤ w1.heap.size := by omega
  have hP1 : Pb < w1.heap.size := by omega
  have hH2 : Holds w2 Pb rs.length q := HH1.out.mod (hB2.block Pb hP1)
  have hJ2 := hJ _ _ _ HJ1.out (hB2.mono (by omega : B0 ≤ w1.heap.size))
  have hR2 : w2.heap[w.heap.size + 1 + 1]? = some (.cells #[.bool false] 4 (0, 0)) := (hB2.block _ (by omega)).trans d8
  rw [dz] at cS
  refine wpIn_rangeFunc_ownG rfl (by decide) (gf := 81) (lb := #[.pointer (some ⟨w.heap.size + 1 + 1 + 1, 0, none⟩)]) rfl trivial (enters_of Tryd.func81 (by kernel_rfl) rfl)
    (elem8_stops 8 (sub r tk) hx8 (w.heap.size + 1 + 1 + 1) w2 cS hT2) TabK.t (fun W l o o' _ h ho _ => TabK.b W l o o' h ho) (Below.refl _ _) (fun _ => rfl)
    (fun pre2 W => J (pre ++ (((pre2.map (·.1)).flatMap fun j => permsF (rs.drop (i + 1)) (tk ||| 2 ^ j) (q ++ [j])).map fun p => (Pb, p))) W ∧ Mod (Two A Pb) w2 W ∧ Holds W Pb rs.length q)
    (fun c _ W => c = .ret ∧ (∃ ys, Jx (pre ++ ys) W) ∧ W.cell? ⟨w.heap.size + 1 + 1, 0, none⟩ = some (.bool false) ∧ w2.heap.size ≤ W.heap.size ∧ ∀ k, B0 ≤ k → k < w.heap.size → k ≠ Pb → W.heap[k]? = w2.heap[k]?)
    (fun s X Y row hs hg hr => ⟨hJ _ _ _ hs.1 ((Below.refl B0 X).grown hg (by have := hs.2.1.size; omega) fun k e => by have := (hr k e).1; omega), hs.2.1.grown hg fun k e => (hr k e).1,
      hs.2.2.mod (hg.block Pb hs.2.2.lt fun e => by have := (hr Pb e.symm).1; omega)⟩)
    (fun c s X Y row hs hg hr => ⟨hs.1, hs.2.1.elim fun ys h => ⟨ys, hJx _ _ _ h ((Below.refl B0 X).grown hg (by have := hs.2.2.2.1; omega) fun k e => by have := (hr k e).1; omega)⟩,
      cell_kept hs.2.2.1 hg (fun r e => (hr r e).2), Nat.le_trans hs.2.2.2.1 hg.size, fun k h1 h2 h3 => (hg.block k (by have := hs.2.2.2.1; omega) fun e => by have := (hr k e.symm).1; omega).trans (hs.2.2.2.2 k h1 h2 h3)⟩)
    ⟨by simpa using hJ2, Mod.refl _ _, hH2⟩
    (fun x => { tmps := #[.int .i64 i, .int .i64 tk, .pointer (some ⟨Bp, 0, none⟩), .pointer (some ⟨By, 0, none⟩), .pointer (some ⟨Br, 0, none⟩), .pointer (some ⟨Bc, 0, none⟩), .pointer (some ⟨w.heap.size, 0, none⟩), .pointer (some ⟨w.heap.size + 1, 0, none⟩), .pointer (some ⟨w.heap.size + 1 + 1, 0, none⟩), .int .i64 x.1, .int .i64 i,
      .slice (some ⟨Pb, 0, none⟩) rs.length rs.length, .int .i64 rs.length, .bool false, undef, undef, undef, .slice (some ⟨b0, o0, none⟩) rs.length cap, .int .i64 i, .pointer (some ⟨b0, o0 + i, none⟩), .int .i64 r, .int .i64 tk, .int .i64 (sub r tk : Nat),
      .func (.func 81) #[] #[.pointer (some ⟨w.heap.size + 1 + 1 + 1, 0, none⟩)], .int .i64 x.1, undef, undef, undef, undef, undef, undef, undef, undef, undef, undef, undef, undef, undef], defers := [] }) ?assign ?body ?done ?stop
  case assign =>
    intro l x W K hK
    gi_wp2
    exact hK
  case body =>
    rintro l' pre2 x W ⟨hJW, hMW, hHW⟩ hlen
    have hM1W : Mod (Two A Pb) w1 W := hM12.trans hMW fun _ h => .inl h
    have hMwW : Mod (Two A Pb) w W := hMw2.trans hMW fun _ h => .inl h
    have hws2 : w2.heap.size ≤ W.heap.size := hMW.size
    obtain ⟨hTW, hpW, _, _, hplW⟩ := HE.out W hMwW
    have far (a : Nat) (h1 : w.heap.size ≤ a) : ¬ Two A Pb a := by rintro (h | h) <;> omega
    have c6 := (World.cell?_of_block (a := ⟨w.heap.size, 0, none⟩) (hM1W.block w.heap.size (by omega) (far _ (Nat.le_refl _)))).trans d6
    have c7 := (World.cell?_of_block (a := ⟨w.heap.size + 1, 0, none⟩) (hM1W.block (w.heap.size + 1) (by omega) (far _ (by omega)))).trans d7
    have c8 : W.heap[w.heap.size + 1 + 1]? = some (.cells #[.bool false] 4 (0, 0)) := (hM1W.block (w.heap.size + 1 + 1) (by omega) (far _ (by omega))).trans d8
    obtain ⟨rest, hI, hl⟩ := hHW
    obtain ⟨y, rest', rfl⟩ : ∃ y rest', rest = y :: rest' := by
      cases rest with
      | nil => simp at hl; omega
      | cons y rest' => exact ⟨y, rest', rfl⟩
    have hil : i < (nats (q ++ y :: rest')).length := by rw [nats_length, hl]; omega
    obtain ⟨hcp, hfp⟩ := hI.cell hil
    have hx8' := x.2.2
    have hIs : IBlk (W.setCell ⟨Pb, i, none⟩ (.int .i64 x.1)) Pb (nats ((q ++ [x.1]) ++ rest')) := by
      have := hI.set i ((x.1 : Nat) : Int)
      have e : (nats (q ++ y :: rest')).set i ((x.1 : Nat) : Int) = nats ((q ++ [x.1]) ++ rest') := by
        rw [← nats_set]
        congr 1
        rw [List.set_append_right _ _ (by omega), hq, Nat.sub_self]
        simp
      rwa [e] at this
    have hHs : Holds (W.setCell ⟨Pb, i, none⟩ (.int .i64 x.1)) Pb rs.length (q ++ [x.1]) := ⟨rest', hIs, by simp at hl ⊢; omega⟩
    have hsW : (W.setCell ⟨Pb, i, none⟩ (.int .i64 x.1)).heap.size = W.heap.size := by simp [World.setCell]
    have hMs : Mod (Two A Pb) W (W.setCell ⟨Pb, i, none⟩ (.int .i64 x.1)) := (Mod.refl _ W).setCell (.inl (.inr rfl)) _
    have hBs : Below B0 W (W.setCell ⟨Pb, i, none⟩ (.int .i64 x.1)) := (Below.refl B0 W).setCell (p := ⟨Pb, i, none⟩) hPb _
    have k6 := (World.cell?_of_block (a := ⟨w.heap.size, 0, none⟩) (hMs.block w.heap.size (by omega) (far _ (Nat.le_refl _)))).trans c6
    have k7 := (World.cell?_of_block (a := ⟨w.heap.size + 1, 0, none⟩) (hMs.block (w.heap.size + 1) (by omega) (far _ (by omega)))).trans c7
    have k8 := (hMs.block (w.heap.size + 1 + 1) (by omega) (far _ (by omega))).trans c8
    have kp := (World.cell?_of_block (a := ⟨Bc, 0, none⟩) (hMs.block Bc (World.block_lt_of_cell? W _ hplW) (by rintro (h | h) <;> omega))).trans hplW
    have hmx : Tryd.prog.follows .mixedOrders = true := by kernel_rfl
    have hp2 : 2 ^ x.1 ≤ 2 ^ 7 := Nat.pow_le_pow_right (by decide) (by omega)
    have e1 : IntKind.i64.wrap ((i:Int) + 1) = (i:Int) + 1 := i64_of (by omega) (by omega)
    have e3 : IntKind.i64.wrap ((2:Int) ^ x.1) = ((2 ^ x.1 : Nat) : Int) := by rw [pw_cast]; exact i64_of (by have := pw_bd x.1 (by omega); omega) (by have := pw_bd x.1 (by omega); omega)
    have e4 : bits .or .i64 (tk:Int) ((2 ^ x.1 : Nat) : Int) = ((tk ||| 2 ^ x.1 : Nat) : Int) := i64_or _ _ (by omega) (by omega)
    have hor : tk ||| 2 ^ x.1 < 2 ^ 8 := Nat.or_lt_two_pow htk (by omega)
    have HCALL := Lib.hid (HIH.out (tk ||| 2 ^ x.1) _ (q ++ [x.1]) (W.setCell ⟨Pb, i, none⟩ (.int .i64 x.1)).drew (HE.out.mod ((hMwW.trans hMs fun _ h => .inl h).drew)) hHs (hJ _ _ _ (hJ _ _ _ hJW hBs) ((Below.refl B0 _).drew)) (by simp; omega)
      (by intro j hj; rcases List.mem_append.1 hj with h | h; exact hq8 j h; simp at h; omega) (by show B0 ≤ (W.setCell _ _).heap.size; omega) hor)
    have HTW := Lib.hid hTW
    have HMW := Lib.hid hMW
    have HMs := Lib.hid hMs
    clear hIs hHs hJW hBs hor hp2 hI c7 c8 HE HIH HM0 HT1 HJ1 HH1 hMwW hM1W hTW hMW hMs HR hM12 hMw2 hT2 hH2 hJ2 hR2 cS hl hil d6 d7 d8 hplW hB2
    have hi0 : (0:Int) ≤ (i:Int) := by omega
    have hi1 : (i:Int) < (rs.length:Int) := by omega
    gi_wp2_with fail
    clear c6 hcp hfp hpW
    generalize W.setCell ⟨Pb, i, none⟩ (.int .i64 x.1) = W2 at *
    refine round_region_held (fun w' => w'.cell? ⟨w.heap.size, 0, none⟩ = some (.int .i64 i) ∧ w'.cell? ⟨w.heap.size + 1, 0, none⟩ = some (.int .i64 tk) ∧ w'.cell? ⟨Bc, 0, none⟩ = some (.func (.func 79) #[] #[.pointer (some ⟨Bp, 0, none⟩), .pointer (some ⟨By, 0, none⟩), .pointer (some ⟨Br, 0, none⟩), .pointer (some ⟨Bc, 0, none⟩)]))
      hmx (by rintro ⟨_, _, h⟩; exact h) (by kernel_rfl) ⟨k6, k7, kp⟩ (fun hS0 => ?_)
    refine wpAnyH_take (i := 0) (v := .func (.func 79) #[] #[.pointer (some ⟨Bp, 0, none⟩), .pointer (some ⟨By, 0, none⟩), .pointer (some ⟨Br, 0, none⟩), .pointer (some ⟨Bc, 0, none⟩)]) rfl (by kernel_rfl) (by kernel_rfl) (by kernel_rfl) (fun _ _ _ h => h) (Or.inl ⟨by rfl, ?_⟩) hS0 ?_
    · intro w' hSw
      go_simp
    simp only [Act.put]
    refine wpAnyH_take (i := 1) (v := .int .i64 i) rfl (by kernel_rfl) (by kernel_rfl) (by kernel_rfl) (fun _ _ _ h => h) (Or.inl ⟨by rfl, ?_⟩) hS0 ?_
    · intro w' hSw
      go_simp
    simp only [Act.put]
    refine wpAnyH_take (i := 2) (v := .int .i64 ((i:Int) + 1)) rfl (by kernel_rfl) (by kernel_rfl) (by kernel_rfl) (fun _ _ _ h => h) (Or.inl ⟨by rfl, ?_⟩) hS0 ?_
    · intro w' hSw
      go_simp
    simp only [Act.put]
    refine wpAnyH_take (i := 3) (v := .int .i64 tk) rfl (by kernel_rfl) (by kernel_rfl) (by kernel_rfl) (fun _ _ _ h => h) (Or.inl ⟨by rfl, ?_⟩) hS0 ?_
    · intro w' hSw
      go_simp
    simp only [Act.put]
    refine wpAnyH_take (i := 4) (v := .int .i64 x.1) rfl (by kernel_rfl) (by kernel_rfl) (by kernel_rfl) (fun _ _ _ h => h) (Or.inl ⟨by rfl, ?_⟩) hS0 ?_
    · intro w' hSw
      go_simp
    simp only [Act.put]
    refine wpAnyH_take (i := 5) (v := .int .i64 (2 ^ x.1 : Nat)) rfl (by kernel_rfl) (by kernel_rfl) (by kernel_rfl) (fun _ _ _ h => h) (Or.inl ⟨by rfl, ?_⟩) hS0 ?_
    · intro w' hSw
      go_simp
    simp only [Act.put]
    refine wpAnyH_take (i := 6) (v := .int .i64 (tk ||| 2 ^ x.1 : Nat)) rfl (by kernel_rfl) (by kernel_rfl) (by kernel_rfl) (fun _ _ _ h => h) (Or.inl ⟨by rfl, ?_⟩) hS0 ?_
    · intro w' hSw
      go_simp
      rw [← pw_cast]
      exact e4
    simp only [Act.put]
    refine wpAnyH_ready (rs := [7]) (by kernel_rfl) (by simp) (AllReadyH.cons rfl (fun K hK => ?_) AllReadyH.nil)
    go_simp
    refine HCALL.out.mono ?_
    rintro e W3 (⟨rfl, hJ3, hM3, hH3⟩ | ⟨rfl, hys, hsz, hbl⟩)
    · have cell (a : Nat) (v : Value) (h : W2.cell? ⟨a, 0, none⟩ = some v) (ha : ¬ Two A Pb a) : W3.cell? ⟨a, 0, none⟩ = some v := (World.cell?_of_block (a := ⟨a, 0, none⟩) (hM3.block a (World.block_lt_of_cell? W2 _ h) ha)).trans h
      refine hK.out _ _ ⟨cell _ _ k6 (far _ (Nat.le_refl _)), cell _ _ k7 (far _ (by omega)), cell _ _ kp (by rintro (h | h) <;> omega)⟩ fun hS1 => ?_
      refine wpAnyH_take (i := 8) (v := .bool false) rfl (by kernel_rfl) (by kernel_rfl) (by kernel_rfl) (fun _ _ _ h => h) (Or.inl ⟨by rfl, ?_⟩) hS1 ?_
      · intro w' hSw
        go_simp
      simp only [Act.put]
      refine wpAnyH_done (by kernel_rfl) ?_ _
      gi_wp2_with fail
      have hM23 : Mod (Two A Pb) W2 W3 := (Mod.refl (Two A Pb) W2).drew.trans hM3 fun _ h => .inl h
      have hMW3 : Mod (Two A Pb) W W3 := HMs.out.trans hM23 fun _ h => .inl h
      refine ⟨⟨hMW3.size, fun k o hk hh _ => (hMW3.block k (Array.getElem?_eq_some_iff.1 hh).1 (far k (by omega))).trans hh⟩, fun hT => tab_block hT (hMW3.block 1 (tab_lt hT) (by rintro (h | h) <;> omega)), ?_, HMW.out.trans hMW3 fun _ h => .inl h, ?_⟩
      · rw [List.map_append, List.flatMap_append, List.map_append, ← List.append_assoc]
        simpa using hJ3
      · obtain ⟨rest3, h3, h4⟩ := hH3
        rw [List.append_assoc] at h3 h4
        exact ⟨_, h3, h4⟩
    · have blk (k : Nat) (h1 : B0 ≤ k) (h2 : k < W2.heap.size) (h3 : k ≠ Pb) : W3.heap[k]? = W2.heap[k]? := hbl k h1 h2 h3
      have cell (a : Nat) (v : Value) (h : W2.cell? ⟨a, 0, none⟩ = some v) (h1 : B0 ≤ a) (h3 : a ≠ Pb) : W3.cell? ⟨a, 0, none⟩ = some v := (World.cell?_of_block (a := ⟨a, 0, none⟩) (blk a h1 (World.block_lt_of_cell? W2 _ h) h3)).trans h
      have k9 := (blk (w.heap.size + 1 + 1) (by omega) (by omega) (by omega)).trans k8
      obtain ⟨c9, f9⟩ := boxB_cell k9
      refine hK.out _ _ ⟨cell _ _ k6 (by omega) (by omega), cell _ _ k7 (by omega) (by omega), cell _ _ kp hBc hBcP⟩ fun hS1 => ?_
      refine wpAnyH_take (i := 8) (v := .bool true) rfl (by kernel_rfl) (by kernel_rfl) (by kernel_rfl) (fun _ _ _ h => h) (Or.inl ⟨by rfl, ?_⟩) hS1 ?_
      · intro w' hSw
        go_simp
      simp only [Act.put]
      refine wpAnyH_done (by kernel_rfl) ?_ _
      gi_wp2_with fail
      have hs3 : W2.heap.size ≤ W3.heap.size := hsz
      have hbs (k : Nat) (h1 : k ≠ w.heap.size + 1 + 1) : (W3.setCell ⟨w.heap.size + 1 + 1, 0, none⟩ (.bool false)).heap[k]? = W3.heap[k]? := Below.heap_setCell _ _ _ _ h1
      have hss : (W3.setCell ⟨w.heap.size + 1 + 1, 0, none⟩ (.bool false)).heap.size = W3.heap.size := by simp [World.setCell]
      have hWk (k : Nat) (h1 : B0 ≤ k) (h2 : k < W.heap.size) (h3 : k ≠ Pb) (h4 : k ≠ w.heap.size + 1 + 1) : (W3.setCell ⟨w.heap.size + 1 + 1, 0, none⟩ (.bool false)).heap[k]? = W.heap[k]? :=
        (hbs k h4).trans ((blk k h1 (by omega) h3).trans (HMs.out.block k h2 (by rintro (h | h) <;> omega)))
      obtain ⟨ys, hys⟩ := hys
      refine ⟨⟨by omega, fun k o hk hh _ => (hWk k (by omega) (Array.getElem?_eq_some_iff.1 hh).1 (by omega) (by omega)).trans hh⟩, rfl, ⟨(((pre2.map (·.1)).flatMap fun j => permsF (rs.drop (i + 1)) (tk ||| 2 ^ j) (q ++ [j])).map fun p => (Pb, p)) ++ ys, ?_⟩, World.cell?_setCell_same' _ _ _ (by rw [c9]; rfl), by omega, fun k h1 h2 h3 => ?_⟩
      · rw [← List.append_assoc]
        exact hJx _ _ _ hys ((Below.refl B0 W3).setCell (p := ⟨w.heap.size + 1 + 1, 0, none⟩) (by show B0 ≤ w.heap.size + 1 + 1; omega) _)
      · exact (hWk k h1 (by omega) h3 (by omega)).trans (HMW.out.block k (by omega) (by rintro (h | h) <;> omega))
  case done =>
    rintro D xs W hD hS ⟨hJW, hMW, hHW⟩ hK
    rw [hS, ← HR.out] at hJW
    have k8 := (hMW.block (w.heap.size + 1 + 1) (by omega) (by rintro (h | h) <;> omega)).trans hR2
    obtain ⟨c9, f9⟩ := boxB_cell k8
    gi_wp2_with fail
    have hK' := (KeepsOthers.setCell W ⟨w.heap.size + 1 + 1, 0, none⟩ (.bool true)).same D _ hK rfl
    refine ⟨by simp, .inl ⟨_, _, rfl, run_takeDeferred hK', ?_⟩⟩
    have hc5 := cell_kept (World.cell?_setCell_same' W ⟨w.heap.size + 1 + 1, 0, none⟩ (.bool true) (by rw [c9]; rfl)) (grownBy_putObj' _ D (.deferred none)) (fun r e => by cases e; exact ⟨_, hK', rfl⟩)
    have hMF : Mod (Two A Pb) w ((W.setCell ⟨w.heap.size + 1 + 1, 0, none⟩ (.bool true)).putObj D (.deferred none)) :=
      ((hMw2.trans hMW fun _ h => .inl h).setCell (.inr (by show w.heap.size ≤ w.heap.size + 1 + 1; omega)) _).grown (grownBy_putObj' _ D _) fun k e => by cases e; omega
    refine ⟨.bool true, by simp [results, Tryd.f79, go_sem, hc5], .inl ⟨rfl, ?_, hMF, ?_⟩⟩
    · exact hJ _ _ _ (hJ _ _ _ hJW ((Below.refl B0 W).setCell (p := ⟨w.heap.size + 1 + 1, 0, none⟩) (by show B0 ≤ w.heap.size + 1 + 1; omega) _)) (putObj_below _ _ _ (by omega) hK')
    · exact (hHW.mod (Below.heap_setCell _ _ _ _ (by show ¬ _; simp; omega))).mod (World.putObj_heap_other (by omega))
  case stop =>
    rintro D c pre2 W hD _ ⟨rfl, ⟨ys, hys⟩, hcr, hsz, hbl⟩ hK
    gi_wp2_with fail
    refine ⟨by simp, .inl ⟨_, _, rfl, run_takeDeferred hK, ?_⟩⟩
    have hc5 := cell_kept hcr (grownBy_putObj' _ D (.deferred none)) (fun r e => by cases e; exact ⟨_, hK, rfl⟩)
    refine ⟨.bool false, by simp [results, Tryd.f79, go_sem, hc5], .inr ⟨rfl, ⟨ys, hJx _ _ _ hys (putObj_below _ _ _ (by omega) hK)⟩, by simp; omega, fun k h1 h2 h3 => ?_⟩⟩
    rw [World.putObj_heap_other (by omega), hbl k h1 h2 h3]
    exact hMw2.block k h2 (by rintro (h | h) <;> omega)
end Go.Proofs.YtellnklbkjajbaaDoor
