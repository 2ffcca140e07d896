/- the reference's searched, Most and Long, and Greatest -/
import Derived.Test.YtlalfjkenkmojaaGg
import Derived.Test.YtlalfjkenkmojaaL14
import Derived.Test.YtlalfjkenkmojaaL6
import Derived.Deep.DeepCutAuto
namespace Go.Proofs.Ytlalfjkenkmojaa
open Go.RowKit

/-- A row of numbers does not lie in a box with another slice. -/
theorem off_box {w : World} {v : Value} {l : List Nat} {Bp : Nat} {ao : Option Addr} {n c : Nat} (h : Nats w v l) (hB : Box 22 w Bp (.slice ao n c)) : OffB v (fun k => k = Bp) := by
  intro a m c' hv hp hk
  obtain ⟨ao', cap, he, _, _, hcx⟩ := h.open
  rw [hv] at he
  simp only [Value.slice.injEq] at he
  obtain ⟨ha, hm, rfl⟩ := he
  obtain ⟨b, o, e, hc⟩ := hcx 0 (by omega)
  rw [← ha] at e
  obtain rfl := Option.some.inj e
  have hk : b = Bp := hk
  subst hk
  have hh : w.heap[b]? = some (.cells #[.slice ao n c] 22 (0, 0)) := hB
  simp only [World.cell?, hh] at hc
  rcases Nat.eq_zero_or_pos (o + 0) with e0 | e0
  · rw [e0] at hc; simp at hc
  · have : (#[Value.slice ao n c])[o + 0]? = none := by simp; omega
    rw [this] at hc; cases hc

/-- What right asks of a slice. -/
structure RightD (l : List Nat) : Prop where
  up : Up l
  bd : ∀ y ∈ l, y < 40
theorem RightD.len {l : List Nat} (h : RightD l) : l.length ≤ 40 := up_len h.up h.bd
def RightR (kind n : Nat) (g : List Nat → Bool) : Prop := ∀ v l w, Nats w v l → RightD l → Calls Try.prog 96 #[.int .i64 kind, .int .i64 n, v] w fun e w' => e = .returned (.bool (g l)) ∧ Below w.heap.size w w'
set_option maxHeartbeats 1000000 in
theorem right0 (n : Nat) (hn : 2 ≤ n) (hn4 : n ≤ 40) : RightR 0 n (sumsB n) := by
  intro v l w h hd
  have HS := Lib.hid (rSums_any n v l w hn hn4 hd.bd (by have := hd.len; omega) h)
  generalize sumsB n l = q at *
  clear h hd
  go_enter Try.func96, Try.ntmps96
  go_wp2_with fail
  refine HS.out.mono ?_
  rintro e w1 ⟨rfl, hb1⟩
  have HB1 := Lib.hid hb1
  clear hb1
  go_wp2
  go_ret
  exact ⟨rfl, HB1.out⟩
set_option maxHeartbeats 1000000 in
theorem right1 (n : Nat) (hn : 2 ≤ n) (hn4 : n ≤ 40) : RightR 1 n (apartB n) := by
  intro v l w h hd
  have HS := Lib.hid (rApart_any n v l w hn hn4 hd.bd (by have := hd.len; omega) h)
  generalize apartB n l = q at *
  clear h hd
  go_enter Try.func96, Try.ntmps96
  go_wp2_with fail
  refine HS.out.mono ?_
  rintro e w' ⟨rfl, rfl⟩
  go_wp2
  go_ret
  exact ⟨rfl, Below.refl _ _⟩
set_option maxHeartbeats 1000000 in
theorem right2 (n : Nat) : RightR 2 n stepsR := by
  intro v l w h hd
  have HS := Lib.hid (rSteps_any v l w hd.up (fun y hy => by have := hd.bd y hy; omega) h)
  generalize stepsR l = q at *
  clear h hd
  go_enter Try.func96, Try.ntmps96
  go_wp2_with fail
  refine HS.out.mono ?_
  rintro e w' ⟨rfl, rfl⟩
  go_wp2
  go_ret
  exact ⟨rfl, Below.refl _ _⟩

/-- What a call of searched leaves. -/
def QPost (Bp : Nat) (T : List Nat) (w : World) (e : Ending) (w' : World) : Prop := e = .returned (.tuple #[]) ∧ (∃ ao c, Box 22 w' Bp (.slice ao T.length c) ∧ Nats w' (.slice ao T.length c) T) ∧ Mod (fun k => k = Bp) w w'
theorem nats_len_form {w : World} {v : Value} {l : List Nat} (h : Nats w v l) : ∃ a c, v = .slice a l.length c := by
  obtain ⟨a, c, e, _⟩ := Nats.open h
  exact ⟨a, c, e⟩
def seekR (g : List Nat → Bool) (n x : Nat) (l best : List Nat) : List Nat := seek (ruleOf g) (List.range' x (n - x)) l best
theorem seekR_step {g : List Nat → Bool} {n x : Nat} {l best : List Nat} (h : x < n) : seekR g n x l best = if g (l ++ [x]) then seekR g n (x + 1) l (seekR g n (x + 1) (l ++ [x]) (upd best (l ++ [x]))) else seekR g n (x + 1) l best := by
  unfold seekR
  rw [show n - x = (n - (x + 1)) + 1 by omega, List.range'_succ, seek]
  rfl
theorem seekR_end {g : List Nat → Bool} {n x : Nat} {l best : List Nat} (h : n ≤ x) : seekR g n x l best = best := by
  unfold seekR
  rw [show n - x = 0 by omega]; rfl
theorem seekR_few {g : List Nat → Bool} {n x : Nat} {l best : List Nat} (h : l.length + (n - x) ≤ best.length) : seekR g n x l best = best :=
  seek_few _ _ _ _ (by rw [List.length_range']; exact h)
theorem seekR_len {g : List Nat → Bool} {n x : Nat} {l best : List Nat} (hx : x ≤ n) (hl : l.length ≤ x) (hb : best.length ≤ n) : (seekR g n x l best).length ≤ n := by
  unfold seekR
  rcases seek_found (ruleOf g) (List.range' x (n - x)) l best with h | ⟨s, _, h1, _, h3, _⟩
  · rw [h]; exact hb
  · rw [h3, List.length_append]
    have := h1.length_le
    rw [List.length_range'] at this
    omega

set_option maxHeartbeats 4000000 in
set_option maxRecDepth 100000 in
theorem searched_step (kind n : Nat) (g : List Nat → Bool) (hn : n ≤ 40) (hR : RightR kind n g) (Bp M : Nat)
    (IH : ∀ (a : Nat) (l best : List Nat) (ao bo : Option Addr) (cap bc : Nat) (w : World), n - a < M → a ≤ n → RightD l → (∀ y ∈ l, y < a) → l.length ≤ a → best.length ≤ n → Nats w (.slice ao l.length cap) l → Box 22 w Bp (.slice bo best.length bc) → Nats w (.slice bo best.length bc) best →
      Calls Try.prog 76 #[.int .i64 kind, .int .i64 n, .int .i64 a, .slice ao l.length cap, .pointer (some ⟨Bp, 0, none⟩)] w (QPost Bp (seekR g n a l (upd best l)) w))
    (a : Nat) (l best : List Nat) (ao bo : Option Addr) (cap bc : Nat) (w : World) (hM : n - a ≤ M) (ha : a ≤ n) (hd : RightD l) (hla : ∀ y ∈ l, y < a) (hll : l.length ≤ a) (hbn : best.length ≤ n) (hN : Nats w (.slice ao l.length cap) l) (hB : Box 22 w Bp (.slice bo best.length bc)) (hNb : Nats w (.slice bo best.length bc) best) :
    Calls Try.prog 76 #[.int .i64 kind, .int .i64 n, .int .i64 a, .slice ao l.length cap, .pointer (some ⟨Bp, 0, none⟩)] w (QPost Bp (seekR g n a l (upd best l)) w) := by
  obtain ⟨T, hT⟩ : ∃ T, T = seekR g n a l (upd best l) := ⟨_, rfl⟩
  rw [← hT]
  have HT := Lib.hid hT
  have HOf := Lib.hid (off_box hN hB)
  obtain ⟨ao', cap', he', hc1, hc2, hcx⟩ := hN.open
  simp only [Value.slice.injEq] at he'
  obtain ⟨rfl, _, rfl⟩ := he'
  have HNil : Hid (ao = none → l.length = 0) := Lib.hid fun e => by
    refine Nat.eq_zero_of_not_pos fun hp => ?_
    obtain ⟨b, o, e', _⟩ := hcx 0 hp
    rw [e] at e'; cases e'
  have hcell := hB.cell
  have hfr := hB.fr
  have HBx := Lib.hid hB
  have HN := Lib.hid hN
  have HNb := Lib.hid hNb
  have HD := Lib.hid hd
  have HLa := Lib.hid hla
  have HIH := Lib.hid IH
  have HR := Lib.hid hR
  have hlen40 := hd.len
  have HM0 := Lib.hid (Mod.refl (fun k => k = Bp) w)
  obtain ⟨i0, hi, hz0, hz1, hz2⟩ := info_parts Try.info3
  clear hT hcx hB hN hNb hd hla IH hR
  go_enter Try.func76, Try.ntmps76
  go_upto_if 18 with (fail)
  go_cut [19] (fun _ wx => ∃ (bs : List Nat) (b' : Option Addr) (c' : Nat), T = seekR g n a l bs ∧ bs.length ≤ n ∧ Box 22 wx Bp (.slice b' bs.length c') ∧ Nats wx (.slice b' bs.length c') bs ∧ Mod (fun k => k = Bp) w wx)
  case first =>
    by_cases hbl : best.length < l.length
    · have HUp : Hid (T = seekR g n a l l) := Lib.hid (by rw [HT.out, upd, if_pos hbl])
      have HM1 : Hid (Mod (fun k => k = Bp) w (w.setCell ⟨Bp, 0, none⟩ (.slice ao l.length cap))) := Lib.hid (HM0.out.setCell (.inl rfl) _)
      have HN1 := Lib.hid (HN.out.mod HM1.out HOf.out)
      have HB1 := Lib.hid (HBx.out.set (.slice ao l.length cap))
      go_wp2_with fail
      go_meet
      exact ⟨l, ao, cap, HUp.out, by omega, HB1.out, HN1.out, HM1.out⟩
    · have HUp : Hid (T = seekR g n a l best) := Lib.hid (by rw [HT.out, upd, if_neg hbl])
      go_wp2_with fail
      go_meet
      exact ⟨best, bo, bc, HUp.out, hbn, HBx.out, HNb.out, HM0.out⟩
  case rest =>
    obtain ⟨bs0, b0, c0, hT0, hbs0, hB0, hN0, hM0⟩ := hcut
    have HT0 := Lib.hid hT0
    have HB0 := Lib.hid hB0
    have HNb0 := Lib.hid hN0
    have HMo := Lib.hid hM0
    clear hT0 hB0 hN0 hM0 hcell hfr HT HNb HM0 HBx
    go_wp2_with fail
    go_loopw [10] (fun i wr => ∃ (x : Nat) (bs : List Nat) (b' : Option Addr) (c' : Nat), a ≤ x ∧ x ≤ n ∧ i = .int .i64 x ∧ T = seekR g n x l bs ∧ bs.length ≤ n ∧ Box 22 wr Bp (.slice b' bs.length c') ∧ Nats wr (.slice b' bs.length c') bs ∧ Mod (fun k => k = Bp) w wr) (fun i _ => n - (intOf i).toNat)
    case atStart => exact ⟨a, bs0, b0, c0, Nat.le_refl _, ha, rfl, HT0.out, hbs0, HB0.out, HNb0.out, HMo.out⟩
    case round =>
      clear HT0 HB0 HNb0 HMo hbs0
      obtain ⟨x, bs, b', c', hax, hxn, rfl, hTx, hbs, hBx, hNx, hMx⟩ := hrel
      have HTx := Lib.hid hTx
      have hcell := hBx.cell
      have HBx := Lib.hid hBx
      have HNx := Lib.hid hNx
      have HMx := Lib.hid hMx
      have HNl := Lib.hid (HN.out.mod hMx HOf.out)
      have HCell : Hid (∀ b, ao = some b → ∀ j u, (ints (nats l))[j]? = some u → wr.cell? (b.add j) = some u) := Lib.hid fun b eb j u hj => by
        have hlt : j < l.length := by have := (List.getElem?_eq_some_iff.1 hj).1; rwa [ints_length, nats_length] at this
        obtain ⟨ao', cap', he', _, _, hcx⟩ := HNl.out.open
        simp only [Value.slice.injEq] at he'
        obtain ⟨rfl, _, rfl⟩ := he'
        obtain ⟨b', o', he', hc⟩ := hcx j hlt
        rw [eb] at he'
        obtain rfl := Option.some.inj he'
        rw [Addr.add_lit, hc, ← hj]
        simp [ints, nats, hlt]
      clear hTx hBx hNx hMx
      by_cases hlt : x < n
      · by_cases hfew : l.length + (n - x) ≤ bs.length
        · have HP : Hid (QPost Bp T w (.returned (.tuple #[])) wr) := Lib.hid (by rw [HTx.out, seekR_few hfew]; exact ⟨rfl, ⟨b', c', HBx.out, HNx.out⟩, HMx.out⟩)
          go_wp2
          refine bodyPost_ret (results_none rfl _ _ _) rfl ?_
          exact HP.out
        · have HSt : Hid (T = if g (l ++ [x]) then seekR g n (x + 1) l (seekR g n (x + 1) (l ++ [x]) (upd bs (l ++ [x]))) else seekR g n (x + 1) l bs) := Lib.hid (by rw [HTx.out]; exact seekR_step hlt)
          have HD2 : Hid (RightD (l ++ [x])) := Lib.hid (by
            refine ⟨?_, fun y hy => ?_⟩
            · by_cases h0 : l = []
              · subst h0; simp [Up]
              · exact up_snoc HD.out.up h0 (by have := HLa.out _ (natD_mem (show l.length - 1 < l.length by have := List.length_pos_iff.2 h0; omega)); omega)
            · rcases List.mem_append.1 hy with hy | hy
              · exact HD.out.bd y hy
              · simp at hy; omega)
          clear HTx
          go_wp2_with (at_builtin; refine wpList_append_grows _ rfl _ _ 22 rfl 3 i0 (.int .i64 0) 1 8 Try.underlying22 hi hz0 hz1 hz2 rfl (by decide) _ _ _ (ints (nats l)) rfl (fun e => ⟨HNil.out e, HNil.out e⟩) (by rw [ints_length, nats_length, Nat.mul_one]) (fun b0 hb0 j u hu => alloc_cell' _ (HCell.out b0 hb0 j u hu)) ⟨wr.heap.size, 0, none⟩ 1 1 [.int .i64 x] rfl rfl (newOne _ _ _) (oneInt _) (by omega) (by unfold maxLen; omega) (by omega) ?_)
          intro v3 w3 hown3 hgrow3
          have HO3 : Hid (w3.ownsRow wr.heap.size 3 1 v3 (l ++ [x]).length (ints (nats (l ++ [x])))) := Lib.hid (owns_mono (own_len hown3 (by simp) (by simp [ints, nats])) (by simp))
          obtain ⟨g3, c3, rfl, _, _⟩ := owns_some hown3
          have HB3 : Hid (Below wr.heap.size wr w3) := Lib.hid (((Below.refl wr.heap.size wr).alloc (Nat.le_refl _) _).grown hgrow3 (by simp) (by intro k hk; cases hk))
          have HN3 : Hid (Nats w3 (.slice (some ⟨g3, 0, none⟩) (l ++ [x]).length c3) (l ++ [x])) := Lib.hid (by
            have := Nats.of_owns HO3.out (by simp; omega) (fun z hz => by have := HD2.out.bd z hz; omega)
            rw [show (l ++ [x]).length = l.length + 1 by simp]
            exact this)
          have HR3 := Lib.hid (HR.out _ _ _ HN3.out HD2.out)
          rw [show (l ++ [x]).length = l.length + 1 by simp] at HR3
          have HIH2 := Lib.hid (fun w4 (hb : Below w3.heap.size w3 w4) => HIH.out (x + 1) (l ++ [x]) bs (some ⟨g3, 0, none⟩) b' c3 c' w4 (by omega) (by omega) HD2.out (fun z hz => by
              rcases List.mem_append.1 hz with hz | hz
              · have := HLa.out z hz; omega
              · simp at hz; omega) (by simp; omega) hbs (HN3.out.below hb (Nat.le_refl _)) ((HBx.out.below HB3.out).below hb) ((HNx.out.below HB3.out (Nat.le_refl _)).below hb (Nat.le_refl _)))
          rw [show (l ++ [x]).length = l.length + 1 by simp, show ((x + 1 : Nat) : Int) = (x:Int) + 1 by omega] at HIH2
          have HLen := Lib.hid (seekR_len (g := g) (n := n) (x := x + 1) (l := l ++ [x]) (best := upd bs (l ++ [x])) (by omega) (by simp; omega) (by unfold upd; split <;> first | (simp; omega) | omega))
          have HBx3 := Lib.hid (HBx.out.below HB3.out)
          have HNx3 := Lib.hid (HNx.out.below HB3.out (Nat.le_refl _))
          have HMx3 := Lib.hid (HMx.out.trans (mod_of_below (S := fun k => k = Bp) HB3.out) (fun z hz => .inl hz))
          clear hown3 hgrow3 HO3 HN3 HD2 HCell HNl HBx HNx HMx HB3
          generalize seekR g n (x + 1) (l ++ [x]) (upd bs (l ++ [x])) = nb at *
          generalize g (l ++ [x]) = q at *
          go_wp2_with fail
          refine HR3.out.mono ?_
          rintro e w4 ⟨rfl, hb4⟩
          cases q with
          | false =>
            have HTn : Hid (T = seekR g n (x + 1) l bs) := Lib.hid (by have h := HSt.out; rw [if_neg (by decide)] at h; exact h)
            have HBx4 := Lib.hid (HBx3.out.below hb4)
            have HNx4 := Lib.hid (HNx3.out.below hb4 (Nat.le_refl _))
            have HMx4 := Lib.hid (HMx3.out.trans (mod_of_below (S := fun k => k = Bp) hb4) (fun z hz => .inl hz))
            clear hb4 HBx3 HNx3 HMx3 HSt HIH2 HR3
            go_wp2
            go_roundw
            case rel => exact ⟨x + 1, bs, b', c', by omega, by omega, by go_num, HTn.out, hbs, HBx4.out, HNx4.out, HMx4.out⟩
            case measure => simp [intOf]; omega
          | true =>
            have HTn : Hid (T = seekR g n (x + 1) l nb) := Lib.hid (by have h := HSt.out; rw [if_pos rfl] at h; exact h)
            have HCall := Lib.hid (HIH2.out w4 hb4)
            have HMx4 := Lib.hid (HMx3.out.trans (mod_of_below (S := fun k => k = Bp) hb4) (fun z hz => .inl hz))
            clear hb4 HBx3 HNx3 HMx3 HSt HIH2 HR3
            go_wp2_with fail
            refine HCall.out.mono ?_
            rintro e w5 ⟨rfl, ⟨b5, c5, hB5, hN5⟩, hM5⟩
            have HB5 := Lib.hid hB5
            have HN5 := Lib.hid hN5
            have HM5 := Lib.hid (HMx4.out.trans hM5 (fun z hz => .inl hz))
            clear hB5 hN5 hM5 HMx4 HCall
            go_wp2
            go_roundw
            case rel => exact ⟨x + 1, nb, b5, c5, by omega, by omega, by go_num, HTn.out, HLen.out, HB5.out, HN5.out, HM5.out⟩
            case measure => simp [intOf]; omega
      · obtain rfl : x = n := by omega
        have HP : Hid (QPost Bp T w (.returned (.tuple #[])) wr) := Lib.hid (by rw [HTx.out, seekR_end (Nat.le_refl _)]; exact ⟨rfl, ⟨b', c', HBx.out, HNx.out⟩, HMx.out⟩)
        go_wp2
        exact ⟨rfl, _, results_none rfl _ _ _, HP.out⟩
end Go.Proofs.Ytlalfjkenkmojaa
