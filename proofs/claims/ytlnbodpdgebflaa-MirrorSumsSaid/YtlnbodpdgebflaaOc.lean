/- open -/
import Derived.Test.YtlnbodpdgebflaaOb
namespace Go.Proofs.Ytlnbodpdgebflaa
open Go.RowKit

def toN (l : List Int) : List Nat := l.map Int.toNat
def folI (g : Nat) (l : List Int) : Nat := fol g 0 (toN l)
theorem toN_nats {g : Nat} {l : List Int} (h : letB g l = true) : nats (toN l) = l := by
  unfold nats toN
  rw [List.map_map]
  conv => rhs; rw [← List.map_id l]
  refine List.map_congr_left fun x hx => ?_
  have := List.all_eq_true.1 h x hx
  simp [mirB] at this
  show ((x.toNat : Nat) : Int) = x
  omega
theorem toN_lt {g : Nat} {l : List Int} (h : letB g l = true) : ∀ s ∈ toN l, s < kM g := by
  intro s hs
  obtain ⟨x, hx, rfl⟩ := List.mem_map.1 hs
  have := List.all_eq_true.1 h x hx
  simp [mirB] at this
  omega
theorem word_let {g : Nat} {l : List Int} (h : wordB g l = true) : letB g l = true := by
  simp [wordB] at h; exact h.2
theorem folI_lt {g : Nat} (hg : g < 17) {l : List Int} (h : wordB g l = true) : folI g l < nE g := fol_lt hg _ 0 (tE hg).1 (toN_lt (word_let h))
theorem Ints.toN {w : World} {v : Value} {g : Nat} {l : List Int} (h : Ints w v l) (hl : letB g l = true) : Nats w v (toN l) := by
  show Ints w v (nats _)
  rw [toN_nats hl]; exact h

/-- What open answers. -/
def OpenPost (g : Nat) (Ls : List (List Int)) (w : World) (e : Ending) (w' : World) : Prop :=
  Below w.heap.size w w' ∧ if Ls.all (wordB g) = true then ∃ T0 a c, e = .returned (.tuple #[.pointer (some ⟨T0, 0, none⟩), .slice a Ls.length c, .int .i64 0]) ∧ TableAt w' T0 g ∧ Nats w' (.slice a Ls.length c) (Ls.map (folI g))
    else e = .returned (.tuple #[.pointer none, .slice none 0 0, .int .i64 2])
theorem OpenPost.bad {g : Nat} {Ls : List (List Int)} {w w' : World} {k : Nat} {l : List Int} (hk : Ls[k]? = some l) (hl : wordB g l = false) (hb : Below w.heap.size w w') : OpenPost g Ls w (.returned (.tuple #[.pointer none, .slice none 0 0, .int .i64 2])) w' := by
  refine ⟨hb, ?_⟩
  rw [if_neg]
  intro h
  have := List.all_eq_true.1 h l (List.mem_of_getElem? hk)
  rw [hl] at this; cases this
theorem all_take {Ls : List (List Int)} {p : List Int → Bool} {k : Nat} {l : List Int} (hk : Ls[k]? = some l) (h : (Ls.take k).all p = true) (hl : p l = true) : (Ls.take (k + 1)).all p = true := by
  rw [List.take_add_one, hk]
  simp [h, hl]

set_option maxHeartbeats 2000000 in
theorem open_any (g : Nat) (hg : g < 17) (v : Value) (Ls : List (List Int)) (w : World) (h : IntRows w v Ls) (h3 : Ls.length ≤ 3) :
    Calls Try.prog 69 #[gV (kd g) (nm g), v] w (OpenPost g Ls w) := by
  obtain ⟨ao, cap, rfl, h1, h2, hx⟩ := h.open
  have HX := Lib.hid hx
  have HG := Lib.hid (fun W => isGroup_any (kd g) (nm g) W)
  rw [grp_kn hg] at HG
  have HW := Lib.hid (fun v l W h => isWord_any g hg v l W h)
  have HT := Lib.hid (fun W => newTable_any g hg W)
  have HF := Lib.hid (fun T0 v l W h1 h2 h3 => follow_any g T0 0 hg v l W h1 (tE hg).1 h2 h3)
  obtain ⟨i0, hi0, hz0, hz1, hz2⟩ := info_parts Try.info3
  clear h hx
  go_enter Try.func69, Try.ntmps69
  go_wp2_with fail
  refine (HG.out _).mono ?_
  rintro e w1 ⟨rfl, hb1⟩
  have HG1 : Hid (Blk 28 w1 w.heap.size #[.int .u8 (kd g), .int .i64 (nm g)]) := Lib.hid ((Blk.new _ _ _).below hb1)
  have HB1 : Hid (Below w.heap.size w w1) := Lib.hid (((Below.refl _ _).alloc (Nat.le_refl _) _).trans (hb1.mono (by simp)))
  clear hb1 HG
  go_wp2_with fail
  go_loopw [18] (fun i wr => ∃ k : Nat, k ≤ Ls.length ∧ i = .int .i64 k ∧ (Ls.take k).all (wordB g) = true ∧ Blk 28 wr w.heap.size #[.int .u8 (kd g), .int .i64 (nm g)] ∧ Below w.heap.size w wr) (fun i _ => Ls.length - (intOf i).toNat)
  case atStart => exact ⟨0, Nat.zero_le _, rfl, rfl, HG1.out, HB1.out⟩
  case round =>
    clear HG1 HB1
    obtain ⟨k, hk, rfl, hl, hG, hb⟩ := hrel
    have HL := Lib.hid hl
    have HG := Lib.hid hG
    have HB := Lib.hid hb
    have g0 := hG.at0.1
    have g1 := hG.at0.2
    clear hl hG hb
    by_cases hlt : k < Ls.length
    · obtain ⟨l, hkl⟩ : ∃ l, Ls[k]? = some l := ⟨Ls[k], by simp [hlt]⟩
      obtain ⟨b, o, u, rfl, hck, hu⟩ := HX.out k l hkl
      have hck' := ck hck (W := w) (w1 := wr) HB.out
      have HU : Hid (Ints wr u l) := Lib.hid (hu.below HB.out (Nat.le_refl _))
      have HK := Lib.hid hkl
      obtain ⟨ua, uc, rfl, _, _, _⟩ := hu.open
      clear hck hu hkl
      go_wp2_with fail
      refine (HW.out _ _ _ HU.out).mono ?_
      rintro e w2 ⟨rfl, hb2⟩
      have HG2 := Lib.hid (HG.out.below hb2)
      have HB2 : Hid (Below w.heap.size w w2) := Lib.hid (HB.out.trans (hb2.mono HB.out.size))
      clear hb2
      cases hm : wordB g l with
      | true =>
        have HT2 := Lib.hid (all_take HK.out HL.out hm)
        clear hm
        go_wp2_with fail
        go_roundw
        case rel => exact ⟨k + 1, by omega, by go_num, HT2.out, HG2.out, HB2.out⟩
        case measure => simp [intOf]; omega
      | false =>
        have HE := Lib.hid (OpenPost.bad HK.out hm HB2.out)
        clear hm
        go_wp2_with fail
        refine bodyPost_ret (results_tmp3 rfl _ _ _) rfl ?_
        exact HE.out
    · obtain rfl : k = Ls.length := by omega
      have HA : Hid (Ls.all (wordB g) = true) := Lib.hid (by have := HL.out; rwa [List.take_length] at this)
      clear HL HW
      go_wp2_with fail
      refine (HT.out _).mono ?_
      rintro e w2 ⟨T0, rfl, hT0, hb2⟩
      have HT0 := Lib.hid hT0
      have HB2 : Hid (Below w.heap.size w w2) := Lib.hid (HB.out.trans (hb2.mono HB.out.size))
      clear hT0 hb2 g0 g1 HG HB HT
      go_wp2_with fail
      go_loopw [31, 10] (fun i s wr => ∃ k : Nat, k ≤ Ls.length ∧ i = .int .i64 k ∧ wr.ownsRow w2.heap.size 3 1 s k (ints (nats ((Ls.take k).map (folI g)))) ∧ Below w2.heap.size w2 wr) (fun i _ _ => Ls.length - (intOf i).toNat)
      case atStart => exact ⟨0, Nat.zero_le _, rfl, World.ownsRow_nil _ _ _ _, Below.refl _ _⟩
      case round =>
        rename World => w3
        obtain ⟨k, hk, rfl, hO, hb⟩ := hrel
        have HO := Lib.hid hO
        have HB3 := Lib.hid hb
        obtain ⟨sa, sc, rfl⟩ := owns_form hO
        clear hO hb
        by_cases hlt : k < Ls.length
        · obtain ⟨l, hkl⟩ : ∃ l, Ls[k]? = some l := ⟨Ls[k], by simp [hlt]⟩
          obtain ⟨b, o, u, rfl, hck, hu⟩ := HX.out k l hkl
          have hwl := List.all_eq_true.1 HA.out l (List.mem_of_getElem? hkl)
          have hB03 : Below w.heap.size w w3 := HB2.out.trans (HB3.out.mono HB2.out.size)
          have hck' := ck hck (W := w) (w1 := w3) hB03
          have HU : Hid (Nats w3 u (toN l)) := Lib.hid ((hu.below hB03 (Nat.le_refl _)).toN (word_let hwl))
          have HLt := Lib.hid (toN_lt (word_let hwl))
          have HN : Hid (ints (nats ((Ls.take (k + 1)).map (folI g))) = ints (nats ((Ls.take k).map (folI g))) ++ [.int .i64 (folI g l : Nat)]) := Lib.hid (by
            rw [List.take_add_one, hkl]; simp [ints, nats])
          have HFo : Hid (folI g l = fol g 0 (toN l)) := Lib.hid rfl
          obtain ⟨ua, uc, rfl, _, _, _⟩ := hu.open
          have HTw := Lib.hid (HT0.out.below HB3.out)
          clear hck hu hkl hwl hB03
          rw [HFo.out] at HN
          go_wp2_with (first | (go_at_call 72; refine (HF.out _ _ _ _ HTw.out HU.out HLt.out).mono ?_; rintro e w4 ⟨rfl, rfl⟩; generalize fol g 0 (toN l) = y at *) | (at_builtin; refine wpList_append_own _ rfl _ _ 24 rfl w2.heap.size 3 i0 (.int .i64 0) 1 8 Try.underlying24 hi0 hz0 hz1 hz2 rfl (by decide) _ _ _ rfl (HO.out.alloc _) ⟨w3.heap.size, 0, none⟩ 1 1 [.int .i64 (y : Nat)] rfl rfl (newOne _ _ _) (oneInt _) (by unfold maxLen; omega) (by omega) (by have := HB3.out.size; simp; omega) ?_; intro v5 w5 hown5 hg5 _) | fail)
          have HO5 : Hid (w5.ownsRow w2.heap.size 3 1 v5 (k + 1) (ints (nats ((Ls.take (k + 1)).map (folI g))))) := Lib.hid (by rw [HN.out]; exact hown5)
          have HB5 : Hid (Below w2.heap.size w2 w5) := Lib.hid ((HB3.out.alloc HB3.out.size _).grown hg5 (by have := HB3.out.size; simp; omega) fun q e => (HO.out.lt q e).1)
          obtain ⟨a5, c5, rfl⟩ := owns_form hown5
          clear hown5 hg5
          go_roundw
          case rel => exact ⟨k + 1, by omega, by go_num, HO5.out, HB5.out⟩
          case measure => simp [intOf]; omega
        · obtain rfl : k = Ls.length := by omega
          have HE : Hid (OpenPost g Ls w (.returned (.tuple #[.pointer (some ⟨T0, 0, none⟩), .slice sa Ls.length sc, .int .i64 0])) w3) := Lib.hid (by
            refine ⟨HB2.out.trans (HB3.out.mono HB2.out.size), ?_⟩
            rw [if_pos HA.out]
            refine ⟨T0, sa, sc, rfl, HT0.out.below HB3.out, ?_⟩
            have := HO.out
            rw [List.take_length] at this
            refine Ints.of_owns (n := Ls.length) this (by omega) ?_
            refine nats_I64 fun x hx => ?_
            obtain ⟨l, hl, rfl⟩ := List.mem_map.1 hx
            have := folI_lt hg (List.all_eq_true.1 HA.out l hl)
            have := (tE hg).2
            omega)
          go_wp2_with fail
          refine bodyPost_ret (results_tmp3 rfl _ _ _) rfl ?_
          exact HE.out
end Go.Proofs.Ytlnbodpdgebflaa
