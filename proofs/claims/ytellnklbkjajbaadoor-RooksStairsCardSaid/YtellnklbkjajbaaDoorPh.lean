/- the reference's Hits -/
import Derived.Test.YtellnklbkjajbaaDoorPw
namespace Go.Proofs.YtellnklbkjajbaaDoor
open Go.RowKit

theorem PV.get {B : Nat} {w : World} : ∀ {xs : List Value} {ps : List (List Nat)} {k : Nat} {x : Value}, PV B w xs ps → xs[k]? = some x → ∃ p, ps[k]? = some p ∧ Bg B w x p
  | [], [], k, x, _, h => by simp at h
  | y :: xs, p :: ps, 0, x, h1, h => ⟨p, rfl, by simp at h; subst h; exact h1.1⟩
  | y :: xs, p :: ps, k + 1, x, h1, h => by
    have := PV.get (k := k) h1.2 (by simpa using h)
    simpa using this
  | [], _ :: _, _, _, h1, _ => h1.elim
  | _ :: _, [], _, _, h1, _ => h1.elim
theorem Bg.modA {B A : Nat} {w w' : World} {x : Value} {p : List Nat} (h : Bg B w x p) (hA : A < B) (hm : Mod (· = A) w w') : Bg B w' x p := by
  obtain ⟨h1, h2⟩ := h
  refine ⟨h1, ?_⟩
  rcases h2 with h2 | ⟨g, cap, cur, e1, e2, e3, e4⟩
  · exact .inl h2
  · exact .inr ⟨g, cap, cur, e1, e2, (hm.block g (lt_of_block e3) (by omega)).trans e3, e4⟩

set_option maxHeartbeats 400000 in
theorem rhits_any (v v' : Value) (bs p : List Nat) (n : Nat) (w : World) (hb : Brd n bs) (h : Nats w v bs) (h' : Nats w v' p) (hp : p.length = n) (hp6 : ∀ x ∈ p, x < 6) :
    Calls Tryd.prog 57 #[v, v'] w fun e w' => e = .returned (.int .i64 (hitK bs p n : Nat)) ∧ w = w' := by
  obtain ⟨ao, cap, rfl, h1, _, hx⟩ := h.open
  obtain ⟨ao', cap', rfl, h1', _, hx'⟩ := h'.open
  have hl := hb.len
  have hn6 := hb.le
  have HX := Lib.hid hx
  have HX' := Lib.hid hx'
  have HG := Lib.hid (fun k => Nat.lt_of_lt_of_le (hb.get k) (pw6 n hn6).2)
  have HP : Hid (∀ k, k < n → p.getD k 0 < 6) := Lib.hid fun k hk => hp6 _ (natD_mem (by omega))
  rw [hp] at h1' HX' ⊢
  rw [hl] at h1 HX ⊢
  clear h h' hx hx' hb
  go_enter Tryd.func57, Tryd.ntmps57
  go_wp2_with fail
  go_loop [5, 10] (fun s ii => ∃ k : Nat, k ≤ n ∧ ii = .int .i64 k ∧ s = .int .i64 (hitK bs p k : Nat)) (fun _ ii => n - (intOf ii).toNat)
  case atStart => exact ⟨0, Nat.zero_le _, rfl, rfl⟩
  case round =>
    obtain ⟨k, hk, rfl, rfl⟩ := hrel
    by_cases hlt : k < n
    · obtain ⟨b, o, rfl, hcb⟩ := HX.out k hlt
      obtain ⟨b', o', rfl, hcp⟩ := HX'.out k hlt
      have hle := hitK_le bs p k
      have hj := HP.out k hlt
      have hr := HG.out k
      have hbit := bit_and1 (bs.getD k 0) (p.getD k 0) (by omega)
      have HK : Hid (hitK bs p (k + 1) = hitK bs p k + (if (bs.getD k 0).testBit (p.getD k 0) then 1 else 0)) := rfl
      have hj0 : (0:Int) ≤ (p.getD k 0 : Nat) := by omega
      generalize hitK bs p k = h at *
      generalize bs.getD k 0 = r at *
      generalize p.getD k 0 = j at *
      cases hb : r.testBit j with
      | true =>
        rw [hb] at hbit HK
        have hbit' : bits .and .i64 ((r:Int) / 2 ^ j) 1 = 1 := hbit
        clear hbit hb
        go_wp2_with fail
        go_round
        case rel => exact ⟨k + 1, by omega, by go_num, by rw [HK.out]; simp⟩
        case measure => simp [intOf]; omega
      | false =>
        rw [hb] at hbit HK
        have hbit' : bits .and .i64 ((r:Int) / 2 ^ j) 1 = 0 := hbit
        clear hbit hb
        go_wp2_with fail
        go_round
        case rel => exact ⟨k + 1, by omega, by go_num, by rw [HK.out]; simp⟩
        case measure => simp [intOf]; omega
    · obtain rfl : k = n := by omega
      go_wp2
      go_ret
      exact ⟨rfl, rfl⟩

set_option maxHeartbeats 1000000 in
theorem rHits_any (v : Value) (bs : List Nat) (n : Nat) (w : World) (hb : Brd n bs) (h : Nats w v bs) :
    Calls Tryd.prog 22 #[v] w fun e w' => ∃ A, e = .returned (.slice (some ⟨A, 0, none⟩) (n + 1) (n + 1)) ∧ w.heap.size ≤ A ∧ IBlk w' A (hitsL bs) ∧ Below w.heap.size w w' := by
  have h0 := h
  obtain ⟨ao, cap, rfl, h1, _, _⟩ := h.open
  have hl := hb.len
  have hn6 := hb.le
  rw [hl] at h1 h0 ⊢
  have hmk : ∀ W : World, (Instr.makeSlice 22 (.int .i64 ((n:Int) + 1)) (.int .i64 ((n:Int) + 1))).run Tryd.prog W = .ok (.slice (some ⟨W.heap.size, 0, none⟩) (n + 1) (n + 1)) (W.alloc (.cells (ints (List.replicate (n + 1) 0)).toArray 3)) :=
    run_make22 (n + 1) (n + 1) (Nat.le_refl _) (by omega)
  have hI0 : IBlk (w.alloc (.cells (ints (List.replicate (n + 1) 0)).toArray 3)) w.heap.size (List.replicate (n + 1) 0) := heap_alloc_new w _
  have hB0 : Below w.heap.size w (w.alloc (.cells (ints (List.replicate (n + 1) 0)).toArray 3)) := (Below.refl _ _).alloc (Nat.le_refl _) _
  have hs0 : (w.alloc (.cells (ints (List.replicate (n + 1) 0)).toArray 3)).heap.size = w.heap.size + 1 := World.size_alloc _ _
  have HC := Lib.hid (rperms_any n (w.alloc (.cells (ints (List.replicate (n + 1) 0)).toArray 3)) hn6)
  have hlenP : (allP n).length = fac n := by
    rw [allP_comps, comps_len (2 ^ n - 1) (by have := pw6 n hn6; omega) n 0 (by
      have : sub (2 ^ n - 1) 0 = 2 ^ n - 1 := Nat.eq_of_testBit_eq fun j => by rw [sub_bit]; simp
      rw [this, fl_full n hn6])]
  have HPos : Hid (0 < (allP n).length) := Lib.hid (by rw [hlenP]; exact fac_pos n)
  have hps : (allP n).length ≤ 720 := by rw [hlenP]; exact fac_le n hn6
  clear hlenP
  have HI0 := Lib.hid hI0
  have HB0 := Lib.hid hB0
  have HNs := Lib.hid h0
  clear h h0 hI0 hB0
  go_enter Tryd.func22, Tryd.ntmps22
  go_wp2_with fail
  refine HC.out.mono ?_
  rintro e w2 ⟨v2, vals, rfl, hO, hP, hb2⟩
  obtain ⟨g2, c2, rfl⟩ := owns_lit hO (by rw [hP.length]; exact HPos.out)
  rw [hs0] at hO hb2 hP
  have hg2 : w.heap.size + 1 ≤ g2 := (World.ownsRow.lt hO g2 rfl).1
  have hg2' : g2 < w2.heap.size := (World.ownsRow.lt hO g2 rfl).2
  have hvl : vals.length = (allP n).length := hP.length
  have hAll : ∀ p ∈ allP n, p.length = n ∧ ∀ j ∈ p, j < n := fun p hp => by
    rw [allP_comps] at hp
    exact ⟨comps_length _ _ _ _ hp, fun j hj => by
      have := comps_bit _ _ _ _ hp j hj
      rw [Nat.testBit_two_pow_sub_one] at this
      exact of_decide_eq_true this⟩
  have HAll := Lib.hid hAll
  have HE : Hid (((allP n).take (allP n).length).foldl (hit1 bs) (List.replicate (n + 1) 0) = hitsL bs) := Lib.hid (by rw [List.take_length]; unfold hitsL; rw [hl])
  have hI2 : IBlk w2 w.heap.size (List.replicate (n + 1) 0) := HI0.out.mod (hb2.block w.heap.size (by omega))
  have HI2 := Lib.hid hI2
  have hw0 : Below w.heap.size w w2 := HB0.out.trans (hb2.mono (by omega))
  have HW := Lib.hid hw0
  have HO := Lib.hid hO
  have HPV := Lib.hid hP
  have HL := Lib.hid hl
  have HBd := Lib.hid hb
  clear hO hP hb2 HC hmk hAll hI2 hw0 HI0 HB0 HPos hs0 hb
  generalize allP n = ps at *
  go_wp2_with fail
  go_loopw [14] (fun ii wr => ∃ k : Nat, k ≤ ps.length ∧ ii = .int .i64 k ∧ IBlk wr w.heap.size ((ps.take k).foldl (hit1 bs) (List.replicate (n + 1) 0)) ∧ Mod (· = w.heap.size) w2 wr) (fun ii _ => ps.length - (intOf ii).toNat)
  case atStart => exact ⟨0, Nat.zero_le _, rfl, HI2.out, Mod.refl _ _⟩
  case round =>
    obtain ⟨k, hk, rfl, hI, hM⟩ := hrel
    have hBw : Below w.heap.size w wr := ⟨hM.os.trans HW.out.os, hM.tape.trans HW.out.tape, hM.output.trans HW.out.output, Nat.le_trans HW.out.size hM.size, fun j hj => (hM.block j (Nat.lt_of_lt_of_le hj HW.out.size) (by omega)).trans (HW.out.block j hj)⟩
    by_cases hlt : k < ps.length
    · obtain ⟨x, hx⟩ : ∃ x, vals[k]? = some x := ⟨vals[k]'(by omega), List.getElem?_eq_getElem (by omega)⟩
      obtain ⟨p, hp, hBg⟩ := PV.get HPV.out hx
      have hcx : w2.cell? ⟨g2, k, none⟩ = some x := by rw [World.ownsRow.cellAt HO.out k (by omega), hx]
      have hcx' := mod_cell hM (a := ⟨g2, k, none⟩) (show g2 ≠ w.heap.size by omega) hcx
      have hBgr := Bg.modA hBg (by omega) hM
      obtain ⟨hpl, hpj⟩ := HAll.out p (List.mem_of_getElem? hp)
      have hNp := Bg.ints hBgr (by omega) (fun j hj => by have := hpj j hj; omega)
      have HC := Lib.hid (rhits_any _ x bs p n wr HBd.out (HNs.out.below hBw (Nat.le_refl _)) hNp hpl (fun j hj => by have := hpj j hj; omega))
      have hle := hitK_le bs p n
      obtain ⟨hc, hf⟩ := hI.cell (k := hitK bs p n) (by rw [foldl_length _ (hit1_length bs), List.length_replicate]; omega)
      have HS := Lib.hid (hI.set (hitK bs p n) (wrap64 (((ps.take k).foldl (hit1 bs) (List.replicate (n + 1) 0)).getD (hitK bs p n) 0 + 1)))
      have HF : Hid ((ps.take (k + 1)).foldl (hit1 bs) (List.replicate (n + 1) 0) = ((ps.take k).foldl (hit1 bs) (List.replicate (n + 1) 0)).set (hitK bs p n) (wrap64 (((ps.take k).foldl (hit1 bs) (List.replicate (n + 1) 0)).getD (hitK bs p n) 0 + 1))) := Lib.hid (by
        rw [List.take_add_one, hp, List.foldl_append, ← HL.out]; rfl)
      obtain ⟨ao1, c1, rfl⟩ := owns_form hBgr
      have HM := Lib.hid hM
      have hh0 : (0:Int) ≤ (hitK bs p n : Nat) := by omega
      have hh1 : ((hitK bs p n : Nat) : Int) < (n:Int) + 1 := by omega
      clear hcx hBg hBgr hNp hI hM hpj hx hp hBw
      generalize ((ps.take k).foldl (hit1 bs) (List.replicate (n + 1) 0)) = ws at *
      generalize ws.getD (hitK bs p n) 0 = u at *
      generalize hitK bs p n = h at *
      go_wp2_with fail
      refine HC.out.mono ?_
      rintro e w' ⟨rfl, rfl⟩
      go_wp2_with fail
      go_roundw
      case rel => exact ⟨k + 1, by omega, by go_num, by rw [HF.out]; exact HS.out, HM.out.setCell (.inl rfl) _⟩
      case measure => simp [intOf]; omega
    · obtain rfl : k = ps.length := by omega
      rw [HE.out] at hI
      have HIe := Lib.hid hI
      have HBe := Lib.hid hBw
      clear hI hBw hM
      go_wp2_with fail
      go_ret
      exact ⟨_, rfl, Nat.le_refl _, HIe.out, HBe.out⟩
end Go.Proofs.YtellnklbkjajbaaDoor
